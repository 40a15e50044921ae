package batch

import (
	"bytes"
	"encoding/binary"
	"fmt"
	"math"
	"slices"
	"strings"
	"testing"
	"unicode/utf8"

	"loess/api"
)

// number answers a record of a number.
func number(k string, n int64) api.Rec {
	return api.Rec{Key: k, Val: api.Raw{Kind: api.VNum, N: n}}
}

// text answers a record of a text.
func text(k, s string) api.Rec {
	return api.Rec{Key: k, Val: api.Raw{Kind: api.VText, S: s}}
}

// gone answers a record of what is gone.
func gone(k string) api.Rec {
	return api.Rec{Key: k, Gone: true}
}

// good are records that may be, each once; their keys do not rise.
func good() []api.Rec {
	var l []api.Rec
	for _, k := range []string{"b", "a", "\xff", "\x00", "ab", "\u00e9\u2603", strings.Repeat("\xff", 16), strings.Repeat("k", 16)} {
		l = append(l, gone(k))
		for _, n := range []int64{0, -1, 63, 64, -64, -65, 1 << 40, math.MaxInt64, math.MinInt64} {
			l = append(l, number(k, n))
		}
		for _, s := range []string{"", "\x00", "\u00e9\ufffd", strings.Repeat("x", 24)} {
			l = append(l, text(k, s))
		}
	}
	return l
}

// bad are records that may not be, each once.
func bad() []api.Rec {
	l := []api.Rec{
		{}, {Key: "a"}, {Key: "a", Val: api.Raw{N: 1}}, {Key: "a", Val: api.Raw{S: "s"}},
		{Key: "a", Gone: true, Val: api.Raw{N: 1}}, {Key: "a", Gone: true, Val: api.Raw{S: "s"}}, {Key: "a", Gone: true, Val: api.Raw{Kind: api.VNum}}, {Key: "a", Gone: true, Val: api.Raw{Kind: api.VText}}, {Key: "a", Gone: true, Val: api.Raw{Kind: -1}},
		{Key: "a", Val: api.Raw{Kind: api.VNum, S: "s"}}, {Key: "a", Val: api.Raw{Kind: api.VText, N: 1}},
		{Key: "a", Val: api.Raw{Kind: 3}}, {Key: "a", Val: api.Raw{Kind: -1}}, {Key: "a", Val: api.Raw{Kind: math.MaxInt}}, {Key: "a", Val: api.Raw{Kind: math.MinInt}},
		text("a", strings.Repeat("x", 25)), text("a", "\xff"), text("a", "\xed\xa0\x80"), text("a", strings.Repeat("x", 1<<16+1)),
	}
	for _, k := range []string{"", strings.Repeat("k", 17), strings.Repeat("\x00", 64), strings.Repeat("k", 1<<16+1)} {
		l = append(l, gone(k), number(k, 0), text(k, "s"))
	}
	return l
}

// many answers n records that may be, of few keys.
func many(n int) []api.Rec {
	l := make([]api.Rec, 0, n)
	for i := range n {
		switch k := fmt.Sprint("key ", i*7%13); i % 3 {
		case 0:
			l = append(l, number(k, int64(i)-500))
		case 1:
			l = append(l, text(k, fmt.Sprint("text ", i)))
		default:
			l = append(l, gone(k))
		}
	}
	return l
}

// recAsRuled says of r what the promises say of a record.
func recAsRuled(r api.Rec) bool {
	if size := len([]byte(r.Key)); size < 1 || size > 16 {
		return false
	}
	v := r.Val
	if r.Gone {
		return v.Kind == 0 && v.N == 0 && v.S == ""
	}
	return v.Kind == 1 && v.S == "" || v.Kind == 2 && v.N == 0 && len([]byte(v.S)) <= 24 && utf8.ValidString(v.S)
}

// mayAsRuled says of l what the promise says.
func mayAsRuled(l []api.Rec) bool {
	for i, r := range l {
		if i >= 1000 || !recAsRuled(r) {
			return false
		}
	}
	return true
}

// asRuled writes l by the promises' own words, whether it may be or not, its numbers by the library's own seven bits a byte.
func asRuled(l []api.Rec) []byte {
	b := binary.AppendVarint(nil, int64(len(l)))
	for _, r := range l {
		b = binary.AppendVarint(b, int64(len(r.Key)))
		b = append(b, r.Key...)
		if r.Gone {
			b = append(b, 0)
			continue
		}
		b = binary.AppendVarint(b, int64(r.Val.Kind))
		if r.Val.Kind == 1 {
			b = binary.AppendVarint(b, r.Val.N)
			continue
		}
		b = binary.AppendVarint(b, int64(len(r.Val.S)))
		b = append(b, r.Val.S...)
	}
	return b
}

// readAsRuled reads what asRuled writes, with no look at whether the list may be.
func readAsRuled(b []byte) ([]api.Rec, bool) {
	next := func() int64 {
		n, k := binary.Varint(b)
		if k <= 0 {
			b = nil
			return -1
		}
		b = b[k:]
		return n
	}
	word := func() string {
		n := next()
		if n < 0 || n > int64(len(b)) {
			b = nil
			return ""
		}
		s := string(b[:n])
		b = b[n:]
		return s
	}
	var l []api.Rec
	n := next()
	for int64(len(l)) < n && len(b) > 0 {
		r := api.Rec{Key: word()}
		switch kind := next(); kind {
		case 0:
			r.Gone = true
		case 1:
			r.Val = api.Raw{Kind: 1, N: next()}
		case 2:
			r.Val = api.Raw{Kind: 2, S: word()}
		default:
			return nil, false
		}
		l = append(l, r)
	}
	return l, n == int64(len(l))
}

// told answers what a message says of l, however long it is.
func told(l []api.Rec) string {
	return fmt.Sprintf("%d: %.200q", len(l), fmt.Sprint(l[:min(len(l), 10)]))
}

// isCorrupt holds that b is no batch's bytes.
func isCorrupt(t *testing.T, b []byte) {
	t.Helper()
	if l, err := Decode(b); l != nil || err != api.ErrCorrupt {
		t.Errorf("Decode(%.100x): %s, %v, not none, ErrCorrupt", b, told(l), err)
	}
}

// isDecoded holds that Decode answers l of b.
func isDecoded(t *testing.T, b []byte, l []api.Rec) {
	t.Helper()
	if got, err := Decode(b); !slices.Equal(got, l) || err != api.OK {
		t.Errorf("Decode(%.100x): %s, %v, not %s", b, told(got), err, told(l))
	}
}

// isRead holds that Decode finds a list just then when b is what the promise writes of one that may be, and that one.
func isRead(t *testing.T, b []byte) {
	t.Helper()
	w, ok := readAsRuled(b)
	if !ok || !mayAsRuled(w) || !bytes.Equal(asRuled(w), b) {
		isCorrupt(t, b)
		return
	}
	isDecoded(t, b, w)
}

// mustMay holds that l may be, or not, and all that goes with it.
func mustMay(t *testing.T, ok bool, l ...api.Rec) {
	t.Helper()
	if mayAsRuled(l) != ok {
		t.Fatalf("the tests' own words of %s: not %v", told(l), ok)
	}
	if May(l) != ok {
		t.Errorf("May(%s): not %v", told(l), ok)
	}
	b, got := asRuled(l), Encode(l)
	if !ok {
		if got != nil {
			t.Errorf("Encode(%s): %.100x, not nil", told(l), got)
		}
		// The bytes need not be wrong: what is gone has no place in them for a value that it should not have.
		isRead(t, b)
		return
	}
	if !bytes.Equal(got, b) {
		t.Errorf("Encode(%s): %.100x, not %.100x", told(l), got, b)
	}
	isDecoded(t, b, l)
}

// draw answers a number below n by a short rule, the same ones in each run.
func draw(x *uint64, n int) int {
	*x ^= *x << 13
	*x ^= *x >> 7
	*x ^= *x << 17
	return int(*x >> 33 % uint64(n))
}

// P16.1: Encode: the bytes, one by one, and back.
func TestBytes(t *testing.T) {
	for _, c := range []struct {
		l    []api.Rec
		want string
	}{
		{nil, "\x00"},
		{[]api.Rec{gone("a")}, "\x02\x02a\x00"},
		{[]api.Rec{number("a", 0)}, "\x02\x02a\x02\x00"},
		{[]api.Rec{number("\xff\x00", -65)}, "\x02\x04\xff\x00\x02\x81\x01"},
		{[]api.Rec{text("a", "")}, "\x02\x02a\x04\x00"},
		{[]api.Rec{text("b", "red"), gone("a"), text("b", "red")}, "\x06\x02b\x04\x06red\x02a\x00\x02b\x04\x06red"},
		{slices.Repeat([]api.Rec{gone("a")}, 63), "\x7e" + strings.Repeat("\x02a\x00", 63)},
		{slices.Repeat([]api.Rec{gone("a")}, 64), "\x80\x01" + strings.Repeat("\x02a\x00", 64)},
		{slices.Repeat([]api.Rec{number("k", 1)}, 1000), "\xd0\x0f" + strings.Repeat("\x02k\x02\x02", 1000)},
	} {
		if got := Encode(c.l); string(got) != c.want {
			t.Errorf("Encode(%s): %x, not %x", told(c.l), got, c.want)
		}
		isDecoded(t, []byte(c.want), c.l)
	}
}

// P16.1: at most 1,000 records.
func TestHowMany(t *testing.T) {
	for n := range 140 {
		mustMay(t, true, many(n)...)
	}
	for _, n := range []int{512, 998, 999, 1000} {
		mustMay(t, true, many(n)...)
	}
	for _, n := range []int{1001, 1002, 1024, 1063, 1064, 2000, 8192, 1 << 16, 1 << 20} {
		mustMay(t, false, many(n)...)
	}
}

// P16.1: a full batch of the longest records.
func TestLongest(t *testing.T) {
	r := text(strings.Repeat("\xff", 16), strings.Repeat("\u00e9", 12))
	mustMay(t, true, slices.Repeat([]api.Rec{r}, 1000)...)
	mustMay(t, false, slices.Repeat([]api.Rec{r}, 1001)...)
	if got := len(Encode(slices.Repeat([]api.Rec{r}, 1000))); got != 2+1000*43 {
		t.Errorf("the longest batch has %d bytes", got)
	}
}

// P16.1: each record may be; a key may come twice, and none has to rise.
func TestGood(t *testing.T) {
	l := good()
	for i, r := range l {
		mustMay(t, true, r)
		mustMay(t, true, r, r)
		mustMay(t, true, r, l[len(l)-1-i], r)
		mustMay(t, true, l[i:]...)
	}
	slices.Reverse(l)
	mustMay(t, true, l...)
}

// P16.1: one record that may not be, wherever it stands, and the list may not be.
func TestOneWrong(t *testing.T) {
	for _, r := range bad() {
		mustMay(t, false, r)
		mustMay(t, false, r, r)
		for _, n := range []int{1, 2, 5, 63, 999} {
			for _, i := range []int{0, 1, n / 2, n} {
				mustMay(t, false, slices.Insert(many(n), i, r)...)
			}
		}
		l := many(1000)
		for _, i := range []int{0, 1, 499, 998, 999} {
			was := l[i]
			l[i] = r
			mustMay(t, false, l...)
			l[i] = was
		}
		mustMay(t, true, l...)
	}
}

// P16.1: Decode of bytes that are cut off, and of more bytes.
func TestCutOff(t *testing.T) {
	for _, l := range [][]api.Rec{nil, many(1), many(2), many(3), good(), many(63), many(64), many(1000)} {
		b := asRuled(l)
		isDecoded(t, b, l)
		for k := range b {
			if k < 1000 || k%97 == 0 || k > len(b)-100 {
				isCorrupt(t, b[:k])
				isCorrupt(t, b[:k:k])
			}
		}
		for c := range 256 {
			isCorrupt(t, append(bytes.Clone(b), byte(c)))
		}
		isCorrupt(t, append(bytes.Clone(b), b...))
		isCorrupt(t, append(bytes.Clone(b), "\x02a\x00"...))
		isCorrupt(t, append([]byte{0}, b...))
		if len(l) > 0 {
			isCorrupt(t, b[1:])
		}
	}
	isCorrupt(t, nil)
	isCorrupt(t, []byte{})
}

// P16.1: Decode of as many records as the number says, no more and no fewer.
func TestWrongCounts(t *testing.T) {
	all := asRuled(many(1010))[2:]
	for n := range 1010 {
		if n > 70 && n < 990 {
			continue
		}
		rest := asRuled(many(n))
		rest = rest[len(binary.AppendVarint(nil, int64(n))):]
		if !bytes.HasPrefix(all, rest) {
			t.Fatalf("%d records are no beginning of more", n)
		}
		for said := n - 3; said <= n+3; said++ {
			b := append(binary.AppendVarint(nil, int64(said)), rest...)
			if said == n && n <= 1000 {
				isDecoded(t, b, many(n))
				continue
			}
			isCorrupt(t, b)
		}
	}
}

// P16.1, P0.1: Decode: counts that no batch has, at once and with no room taken for them.
func TestNoSuchCounts(t *testing.T) {
	counts := []int64{-1, -2, -1000, 1001, 1 << 16, 1 << 31, 1 << 32, 1<<32 + 1, 1 << 56, math.MaxInt64 - 1, math.MaxInt64, math.MinInt64, math.MinInt64 + 1}
	for _, n := range counts {
		head := binary.AppendVarint(nil, n)
		isCorrupt(t, head)
		for k := 1; k < 1<<12; k *= 4 {
			isCorrupt(t, append(bytes.Clone(head), bytes.Repeat([]byte("\x02a\x00"), k)...))
		}
	}
	isCorrupt(t, make([]byte, 1<<20))
	isCorrupt(t, bytes.Repeat([]byte{0xff}, 1<<20))
	isCorrupt(t, bytes.Repeat([]byte{0x80}, 1<<20))
	isCorrupt(t, bytes.Repeat([]byte{2}, 1<<20))
}

// P16.1: Decode: no number is longer than needed, wherever it stands.
func TestLongerThanNeeded(t *testing.T) {
	for _, s := range []string{
		"\x80\x00", "\x82\x00\x02a\x00", "\x02\x82\x00a\x00", "\x02\x02a\x80\x00", "\x02\x02a\x82\x00\x00", "\x02\x02a\x02\x80\x00", "\x02\x02a\x02\x82\x81\x00",
		"\x02\x02a\x04\x80\x00", "\x02\x02a\x04\x82\x00b", "\x80\x80\x80\x80\x80\x80\x80\x80\x80\x00", "\x80\x80\x80\x80\x80\x80\x80\x80\x80\x02", "\xff\xff\xff\xff\xff\xff\xff\xff\xff\xff\xff",
	} {
		isCorrupt(t, []byte(s))
		isRead(t, []byte(s))
	}
}

// P16.1: Decode of records whose bytes are wrong: the one error, whatever is wrong with them.
func TestWrongRecords(t *testing.T) {
	for _, s := range []string{
		"\x00\x00", "\x01\x00", "\x22" + strings.Repeat("k", 17) + "\x00", "\x82\x80\x08" + strings.Repeat("k", 1<<16+1) + "\x00",
		"\x02a\x01", "\x02a\x06", "\x02a\x06\x00", "\x02a\xff\xff\x03\x00", "\x02a\x04\x02\xff", "\x02a\x04\x06\xed\xa0\x80", "\x02a\x04\x01", "\x02a\x04\x32" + strings.Repeat("x", 25),
		"\x02a\x02\xff\xff\xff\xff\xff\xff\xff\xff\xff\x02",
	} {
		isCorrupt(t, []byte("\x02"+s))
		for _, other := range []string{"\x02a\x00", "\x04ab\x02\x02", "\x02a\x04\x06red"} {
			isCorrupt(t, []byte("\x04"+s+other))
			isCorrupt(t, []byte("\x04"+other+s))
			isCorrupt(t, []byte("\x02"+other+s))
		}
	}
}

// P16.1: Decode of all short bytes.
func TestAllShort(t *testing.T) {
	isRead(t, nil)
	for i := range 1 << 16 {
		isRead(t, []byte{byte(i)})
		isRead(t, []byte{byte(i >> 8), byte(i)})
		isRead(t, []byte{byte(i >> 8), 2, 'a', byte(i)})
		isRead(t, []byte{2, byte(i >> 8), 'a', byte(i)})
		isRead(t, []byte{2, 2, byte(i >> 8), byte(i)})
		isRead(t, []byte{2, 2, 'a', byte(i >> 8), byte(i)})
		isRead(t, []byte{2, 2, 'a', 2, byte(i >> 8), byte(i)})
		isRead(t, []byte{2, 2, 'a', 4, 4, byte(i >> 8), byte(i)})
		isRead(t, []byte{byte(i >> 8), 2, byte(i), 0, 2, 'b', 0})
	}
}

// P16.1: Decode of a batch's bytes of which one is another one, is missing, or comes twice.
func TestOneByteWrong(t *testing.T) {
	b := asRuled([]api.Rec{gone("\x00"), number("ab", -65), text("b", "\u00e9\u2603"), text("a", ""), number("\xff", math.MinInt64), text("ab", strings.Repeat("x", 24))})
	isRead(t, b)
	for i := range b {
		for c := range 256 {
			x := bytes.Clone(b)
			x[i] = byte(c)
			isRead(t, x)
			isRead(t, slices.Insert(bytes.Clone(b), i, byte(c)))
		}
		isRead(t, slices.Delete(bytes.Clone(b), i, i+1))
	}
}

// P16.1: long runs of batches, most of which may be, and of bytes near theirs.
func TestDrawn(t *testing.T) {
	x := uint64(16)
	well, ill := good(), bad()
	for range 20000 {
		var l []api.Rec
		for range draw(&x, 12) {
			l = append(l, well[draw(&x, len(well))])
		}
		ok := draw(&x, 8) > 0
		if !ok {
			l = slices.Insert(l, draw(&x, len(l)+1), ill[draw(&x, len(ill))])
		}
		mustMay(t, ok, l...)
		b := asRuled(l)
		for range 4 {
			b[draw(&x, len(b))] ^= 1 << draw(&x, 8)
			isRead(t, b)
		}
		isRead(t, b[:draw(&x, len(b))])
	}
}

// isEq holds what Eq tells of a and b, either way round.
func isEq(t *testing.T, a, b []api.Rec, ok bool) {
	t.Helper()
	if Eq(a, b) != ok || Eq(b, a) != ok {
		t.Errorf("Eq(%s, %s): not %v", told(a), told(b), ok)
	}
}

// P16.1: Eq: as many records, each the same one, in order.
func TestEq(t *testing.T) {
	all := slices.Concat(good(), bad())
	for i, a := range all {
		for k, b := range all {
			isEq(t, []api.Rec{a}, []api.Rec{b}, i == k)
			isEq(t, []api.Rec{a, b}, []api.Rec{b, a}, i == k)
		}
		isEq(t, all[:i], all, false)
		isEq(t, all[:i], slices.Clone(all[:i]), true)
		isEq(t, all[i:], all, i == 0)
		isEq(t, []api.Rec{a}, nil, false)
		isEq(t, []api.Rec{a}, []api.Rec{a, a}, false)
	}
	for _, n := range []int{1, 2, 3, 63, 1000, 1001} {
		a := many(n)
		isEq(t, a, many(n), true)
		isEq(t, a, many(n+1), false)
		for _, i := range []int{0, n / 2, n - 1} {
			b := slices.Clone(a)
			b[i].Key += "\x00"
			isEq(t, a, b, false)
			b = slices.Clone(a)
			b[i].Gone = !b[i].Gone
			isEq(t, a, b, false)
			b = slices.Clone(a)
			b[i].Val.N++
			isEq(t, a, b, false)
		}
	}
}

// P16.1: Eq is not Newest's: what was written over counts too, and keys of the same runes are two.
func TestEqOfTheSameKeys(t *testing.T) {
	isEq(t, []api.Rec{gone("a"), number("a", 1)}, []api.Rec{number("a", 1)}, false)
	isEq(t, []api.Rec{gone("a"), gone("a")}, []api.Rec{gone("a")}, false)
	isEq(t, []api.Rec{gone("a"), gone("b")}, []api.Rec{gone("b"), gone("a")}, false)
	isEq(t, []api.Rec{gone("\xfe")}, []api.Rec{gone("\xff")}, false)
	isEq(t, []api.Rec{{Key: "a"}}, []api.Rec{gone("a")}, false)
}

// P0.4: a nil list is as an empty one.
func TestNone(t *testing.T) {
	none := [][]api.Rec{nil, {}, make([]api.Rec, 0, 5)}
	for _, l := range none {
		if b := Encode(l); !May(l) || string(b) != "\x00" {
			t.Errorf("none: %v, %x", May(l), b)
		}
		for _, other := range none {
			isEq(t, l, other, true)
		}
	}
	if l, err := Decode([]byte{0}); len(l) != 0 || err != api.OK {
		t.Errorf("Decode of none: %v, %v", l, err)
	}
}

// P0.3: lists that are handed in stay, with their spare room.
func TestListStays(t *testing.T) {
	for _, n := range []int{0, 1, 7, 1000, 1001} {
		all := many(1010)
		if n == 7 {
			all[3].Key = ""
		}
		was, other := slices.Clone(all), slices.Clone(all)
		May(all[:n])
		Encode(all[:n])
		Eq(all[:n], other[:n])
		Eq(all[:n], other[:n+1])
		if !slices.Equal(all, was) || !slices.Equal(other, was) {
			t.Errorf("a list of %d has changed", n)
		}
	}
}

// P0.3: bytes that are handed in stay, and nothing of them is kept.
func TestBytesStay(t *testing.T) {
	w := good()
	all := append(asRuled(w), "....."...)
	was := bytes.Clone(all)
	l, err := Decode(all[:len(all)-5])
	isCorrupt(t, all[:len(all)-4])
	isCorrupt(t, all[:len(all)-6])
	if !bytes.Equal(all, was) {
		t.Error("the bytes have changed")
	}
	for i := range all {
		all[i] = '!'
	}
	if !slices.Equal(l, w) || err != api.OK {
		t.Errorf("the list has become %s, %v", told(l), err)
	}
}

// P0.3: answers are new memory, spare room too: whoever writes into one changes no other one.
func TestAnswersAreNew(t *testing.T) {
	for _, n := range []int{0, 1, 7, 1000} {
		l := many(n)
		b, c := Encode(l), Encode(l)
		kept := bytes.Clone(c[:cap(c)])
		b = b[:cap(b)]
		for i := range b {
			b[i] = '!'
		}
		if !bytes.Equal(c[:cap(c)], kept) {
			t.Errorf("%d: two answers of Encode share memory", n)
		}
		d, _ := Decode(c)
		e, _ := Decode(c)
		rest := slices.Clone(e[:cap(e)])
		d = d[:cap(d)]
		for i := range d {
			d[i] = gone("!")
		}
		if !slices.Equal(e[:cap(e)], rest) || !slices.Equal(e, l) {
			t.Errorf("%d: two answers of Decode share memory", n)
		}
		if again, err := Decode(Encode(l)); !slices.Equal(again, l) || err != api.OK {
			t.Errorf("%d: what was written into answers is kept", n)
		}
	}
}

// P0.5: behind other calls, failed ones too, the same call answers the same.
func TestAnswersHangOnArgumentsAlone(t *testing.T) {
	l := []api.Rec{number("b", 1), gone("a")}
	for range 3 {
		if got := Encode(l); !May(l) || string(got) != "\x04\x02b\x02\x02\x02a\x00" {
			t.Errorf("Encode: %x", got)
		}
		isDecoded(t, []byte("\x04\x02b\x02\x02\x02a\x00"), l)
		isCorrupt(t, []byte("\x04\x02b\x02\x02\x02a"))
		if May(many(1001)) || Encode(many(1001)) != nil || May(bad()) || !Eq(l, l) || Eq(l, l[1:]) {
			t.Error("May, Encode or Eq")
		}
	}
}
