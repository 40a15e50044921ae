package dir

import (
	"bytes"
	"encoding/binary"
	"fmt"
	"math"
	"math/big"
	"slices"
	"strings"
	"testing"

	"loess/api"
	"loess/extent"
)

// file answers an entry.
func file(name string, n, at, sectors int) Entry {
	return Entry{Name: name, Len: n, Span: extent.Span{At: at, Len: sectors}}
}

// numbers are those at which something of an entry ends, with their neighbours, and huge ones.
func numbers() []int {
	l := []int{math.MinInt, math.MinInt + 1, -65536, math.MaxInt - 63, math.MaxInt - 62, math.MaxInt - 1, math.MaxInt, 1 << 31, 1 << 32, 1<<32 + 1, 1<<32 + 64}
	for _, n := range []int{-64, 0, 63, 64, 127, 128, 1023, 1024, 2047, 2048, 4096, 65472, 65535, 65536, 65599, 65600} {
		l = append(l, n-1, n, n+1)
	}
	slices.Sort(l)
	return slices.Compact(l)
}

// names are texts about the ends of what a Name may be; the ones that may be rise.
func names() (good, bad []string) {
	good = []string{
		"\x00", "\x00\x00", strings.Repeat("\x00", 20), "A", "a", "a\x00", "aa", strings.Repeat("n", 19), strings.Repeat("n", 20),
		"\u00e9", "\u2603\U0001f600", "\ufffd", "\xfe\xff", "\xff", strings.Repeat("\xff", 20),
	}
	bad = []string{
		"", strings.Repeat("n", 21), strings.Repeat("\x00", 21), strings.Repeat("\u00e9", 11), strings.Repeat("n", 63), strings.Repeat("n", 64),
		strings.Repeat("n", 256+1), strings.Repeat("n", 1<<16), strings.Repeat("n", 1<<16+1),
	}
	return good, bad
}

// many answers n entries that may be, of as many bytes as go.
func many(n int) []Entry {
	var l []Entry
	for i := range n {
		l = append(l, file(strings.Repeat("n", 18)+fmt.Sprint(10+i), 65536, 2048, 1024))
	}
	return l
}

// mayAsRuled says of e alone what the promise says, in numbers that can't wrap.
func mayAsRuled(e Entry) bool {
	n := big.NewInt(int64(e.Len))
	n.Add(n, big.NewInt(63)).Div(n, big.NewInt(64))
	size := len([]byte(e.Name))
	in := func(x, low, high int) bool { return x >= low && x <= high }
	if !in(size, 1, 20) || !in(e.Len, 0, 65536) || n.Cmp(big.NewInt(int64(e.Span.Len))) != 0 {
		return false
	}
	if e.Span.Len == 0 {
		return e.Span.At == 0
	}
	return in(e.Span.At, 0, 2048)
}

// listAsRuled says of l what the promise says.
func listAsRuled(l []Entry) bool {
	for i, e := range l {
		if i > 32-1 || !mayAsRuled(e) || i > 0 && bytes.Compare([]byte(l[i-1].Name), []byte(e.Name)) >= 0 {
			return false
		}
	}
	return true
}

// asRuled writes l by the promise's own words, whether it may be or not, its numbers by the library's own seven bits a byte.
func asRuled(l []Entry) []byte {
	b := binary.AppendVarint(nil, int64(len(l)))
	for _, e := range l {
		b = binary.AppendVarint(b, int64(len(e.Name)))
		b = append(b, e.Name...)
		for _, n := range []int{e.Len, e.Span.At, e.Span.Len} {
			b = binary.AppendVarint(b, int64(n))
		}
	}
	return b
}

// readAsRuled reads what asRuled writes, with no look at whether the list may be.
func readAsRuled(b []byte) ([]Entry, bool) {
	next := func() int {
		n, k := binary.Varint(b)
		if k <= 0 {
			b = nil
			return -1
		}
		b = b[k:]
		return int(n)
	}
	var l []Entry
	n := next()
	for len(l) < n && len(b) > 0 {
		var e Entry
		size := next()
		if size < 0 || size > len(b) {
			return nil, false
		}
		e.Name = string(b[:size])
		b = b[size:]
		e.Len, e.Span.At, e.Span.Len = next(), next(), next()
		l = append(l, e)
	}
	return l, n == len(l)
}

// isCorrupt holds that b is no list's bytes.
func isCorrupt(t *testing.T, b []byte) {
	t.Helper()
	if l, err := Decode(b); l != nil || err != api.ErrCorrupt {
		t.Errorf("Decode(%.200x): %s, %v, not none, ErrCorrupt", b, told(l), err)
	}
}

// isDecoded holds that b is what the promise writes of a list that may be, just then when Decode finds one, and that one.
func isDecoded(t *testing.T, b []byte) {
	t.Helper()
	w, ok := readAsRuled(b)
	if !ok || !listAsRuled(w) || !bytes.Equal(asRuled(w), b) {
		isCorrupt(t, b)
		return
	}
	if l, err := Decode(b); !slices.Equal(l, w) || err != api.OK {
		t.Errorf("Decode(%.200x): %s, %v, not %s", b, told(l), err, told(w))
	}
}

// isRuled holds May and Encode of l, and Decode of its bytes, against the promise's words.
func isRuled(t *testing.T, l []Entry) {
	t.Helper()
	ok, b := listAsRuled(l), asRuled(l)
	if May(l) != ok {
		t.Errorf("May(%s): not %v", told(l), ok)
	}
	got := Encode(l)
	if !ok {
		if got != nil {
			t.Errorf("Encode(%s): %.200x, not nil", told(l), got)
		}
		isCorrupt(t, b)
		return
	}
	if !bytes.Equal(got, b) {
		t.Errorf("Encode(%s): %.200x, not %.200x", told(l), got, b)
	}
	if back, err := Decode(b); !slices.Equal(back, l) || err != api.OK {
		t.Errorf("Decode(%.200x): %s, %v, not %s", b, told(back), err, told(l))
	}
}

// mustMay holds that l may be, or not, and all that goes with it.
func mustMay(t *testing.T, ok bool, l ...Entry) {
	t.Helper()
	if listAsRuled(l) != ok {
		t.Fatalf("the tests' own words of %s: not %v", told(l), ok)
	}
	isRuled(t, l)
}

// told answers what a message says of l, however long it is.
func told(l []Entry) string {
	return fmt.Sprintf("%.200q", fmt.Sprint(l))
}

// draw answers a number below n by a short rule, the same ones in each run.
func draw(x *uint64, n int) int {
	*x ^= *x << 13
	*x ^= *x >> 7
	*x ^= *x << 17
	return int(*x >> 33 % uint64(n))
}

// P14.1: Encode: the bytes, one by one.
func TestBytes(t *testing.T) {
	for _, c := range []struct {
		l    []Entry
		want string
	}{
		{nil, "\x00"},
		{[]Entry{file("a", 0, 0, 0)}, "\x02\x02a\x00\x00\x00"},
		{[]Entry{file("a", 1, 0, 1)}, "\x02\x02a\x02\x00\x02"},
		{[]Entry{file("ab", 65, 5, 2)}, "\x02\x04ab\x82\x01\x0a\x04"},
		{[]Entry{file("\xff", 65536, 2048, 1024)}, "\x02\x02\xff\x80\x80\x08\x80\x20\x80\x10"},
		{[]Entry{file("\x00", 64, 63, 1), file("b", 0, 0, 0), file("ba", 63, 64, 1)}, "\x06\x02\x00\x80\x01\x7e\x02\x02b\x00\x00\x00\x04ba\x7e\x80\x01\x02"},
	} {
		if got := Encode(c.l); string(got) != c.want {
			t.Errorf("Encode(%s): %x, not %x", told(c.l), got, c.want)
		}
		if l, err := Decode([]byte(c.want)); !slices.Equal(l, c.l) || err != api.OK {
			t.Errorf("Decode(%x): %s, %v, not %s", c.want, told(l), err, told(c.l))
		}
	}
}

// P14.1: how many entries.
func TestHowMany(t *testing.T) {
	for n := range 32 {
		mustMay(t, true, many(n)...)
	}
	mustMay(t, true, many(32)...)
	for _, n := range []int{33, 34, 63, 64} {
		mustMay(t, false, many(n)...)
	}
	long := make([]Entry, 1<<16)
	for i := range long {
		long[i] = file(fmt.Sprintf("%06d", i), 0, 0, 0)
	}
	mustMay(t, false, long...)
	mustMay(t, true, long[:32]...)
	mustMay(t, false, long[:33]...)
}

// P14.1: of one entry all about the ends of Len, At and the Span's Len, with each other.
func TestNumbers(t *testing.T) {
	for _, n := range numbers() {
		for _, at := range numbers() {
			for _, sectors := range numbers() {
				isRuled(t, []Entry{file("a", n, at, sectors)})
			}
		}
	}
}

// P14.1: each Len has its own count of sectors, and no other one.
func TestSectors(t *testing.T) {
	for n := range 65536 + 200 {
		for _, sectors := range []int{n / 64, n/64 + 1, n/64 + 2} {
			isRuled(t, []Entry{file("a", n, 0, sectors)})
		}
	}
	mustMay(t, true, file("a", 0, 0, 0))
	mustMay(t, true, file("a", 1, 0, 1))
	mustMay(t, true, file("a", 64, 2048, 1))
	mustMay(t, true, file("a", 65, 2047, 2))
	mustMay(t, true, file("a", 65536, 2048, 1024))
	mustMay(t, false, file("a", 65536, 2049, 1024))
	mustMay(t, false, file("a", 65537, 0, 1025))
	mustMay(t, false, file("a", 65537, 0, 1024))
	mustMay(t, false, file("a", 0, 1, 0))
	mustMay(t, false, file("a", 0, -1, 0))
	mustMay(t, false, file("a", 1, -1, 1))
	mustMay(t, false, file("a", -63, 0, 0))
	mustMay(t, false, file("a", -64, 0, 0))
	mustMay(t, false, file("a", -128, 0, -1))
	mustMay(t, false, file("a", math.MaxInt, 0, math.MinInt/64))
}

// P14.1: Names of 1 to 20 bytes, whatever they are.
func TestNames(t *testing.T) {
	good, bad := names()
	for _, name := range good {
		mustMay(t, true, file(name, 1, 1, 1))
		for _, other := range bad {
			mustMay(t, false, file(name, 0, 0, 0), file(other, 0, 0, 0))
			mustMay(t, false, file(other, 0, 0, 0), file(name, 0, 0, 0))
		}
	}
	for _, name := range bad {
		mustMay(t, false, file(name, 0, 0, 0))
		mustMay(t, false, file(name, 1, 1, 1))
	}
	for c := range 256 {
		mustMay(t, true, file(string([]byte{byte(c)}), 0, 0, 0))
		mustMay(t, true, file(strings.Repeat(string([]byte{byte(c)}), 20), 0, 0, 0))
		mustMay(t, false, file(strings.Repeat(string([]byte{byte(c)}), 21), 0, 0, 0))
	}
}

// P14.1: Names rise, byte by byte: none comes twice, wherever in the list it stands.
func TestRising(t *testing.T) {
	good, _ := names()
	var all []Entry
	for i, a := range good {
		all = append(all, file(a, i, i%2, (i+63)/64))
		for k, b := range good {
			mustMay(t, i < k, file(a, 0, 0, 0), file(b, 0, 0, 0))
		}
	}
	all[0] = file(good[0], 0, 0, 0)
	mustMay(t, true, all...)
	for i := range len(all) - 1 {
		l := slices.Clone(all)
		l[i], l[i+1] = l[i+1], l[i]
		mustMay(t, false, l...)
		mustMay(t, false, slices.Insert(slices.Clone(all), i, all[i])...)
		mustMay(t, true, slices.Delete(slices.Clone(all), i, i+1)...)
	}
}

// P14.1: one entry that may not be, wherever it stands, and the list may not be.
func TestOneWrong(t *testing.T) {
	for _, n := range []int{1, 2, 5, 32} {
		for i := range n {
			for _, spoil := range []func(*Entry){
				func(e *Entry) { e.Name = "" },
				func(e *Entry) { e.Name += "x" },
				func(e *Entry) { e.Len++ },
				func(e *Entry) { e.Len = -1 },
				func(e *Entry) { e.Len = 65472 },
				func(e *Entry) { e.Span.At++ },
				func(e *Entry) { e.Span.At = -1 },
				func(e *Entry) { e.Span.Len-- },
				func(e *Entry) { e.Len, e.Span.Len = 0, 0 },
			} {
				l := many(n)
				spoil(&l[i])
				mustMay(t, false, l...)
			}
		}
	}
}

// P14.1: where files stand beside each other is nobody's business here: they may share sectors.
func TestSharedSectors(t *testing.T) {
	mustMay(t, true, file("a", 64, 5, 1), file("b", 64, 5, 1))
	mustMay(t, true, file("a", 100, 5, 2), file("b", 64, 6, 1), file("c", 1, 0, 1))
}

// P14.1: Decode of bytes that are cut off, and of more bytes.
func TestCutOff(t *testing.T) {
	good, _ := names()
	var l []Entry
	for i, name := range good {
		l = append(l, file(name, 60*i+1, 60*i, (60*i+64)/64))
	}
	for n := range len(l) + 1 {
		b := asRuled(l[:n])
		isDecoded(t, b)
		for k := range b {
			isCorrupt(t, b[:k])
			isCorrupt(t, b[:k:k])
		}
		for c := range 256 {
			isCorrupt(t, append(bytes.Clone(b), byte(c)))
		}
		isCorrupt(t, append(bytes.Clone(b), b...))
		isCorrupt(t, append([]byte{0}, b...))
		if n > 0 {
			isCorrupt(t, b[1:])
		}
	}
	isCorrupt(t, nil)
	isCorrupt(t, []byte{})
}

// P14.1: Decode: no number is longer than needed, wherever it stands.
func TestLongerThanNeeded(t *testing.T) {
	for _, s := range []string{
		"\x80\x00", "\x82\x00\x02a\x00\x00\x00", "\x02\x82\x00a\x00\x00\x00", "\x02\x02a\x80\x00\x00\x00", "\x02\x02a\x00\x80\x00\x00", "\x02\x02a\x00\x00\x80\x00",
		"\x02\x02a\x02\x8a\x00\x02", "\x02\x04ab\x82\x81\x00\x0a\x04", "\x02\x80\x80\x00", "\x80\x80\x80\x80\x80\x80\x80\x80\x80\x00", "\x80\x80\x80\x80\x80\x80\x80\x80\x80\x02", "\xff\xff\xff\xff\xff\xff\xff\xff\xff\xff\xff",
	} {
		isCorrupt(t, []byte(s))
		isDecoded(t, []byte(s))
	}
}

// P14.1, P0.1: Decode: counts and lengths that no list has, at once and with no room taken for them.
func TestWrongCounts(t *testing.T) {
	entry := asRuled([]Entry{file("a", 0, 0, 0)})[1:]
	for _, n := range numbers() {
		head := binary.AppendVarint(nil, int64(n))
		for k := range 3 {
			isDecoded(t, append(bytes.Clone(head), bytes.Repeat(entry, k)...))
		}
		isDecoded(t, append(append([]byte{2}, head...), "aaaaaaaaaaaaaaaaaaaaaaaaaaaaaaaaaaaaaa\x00\x00\x00"...))
	}
	for _, n := range []int{1, 31, 32, 33, 1 << 20} {
		l := many(min(n, 33))
		b := asRuled(l)
		isDecoded(t, b)
		isDecoded(t, append(binary.AppendVarint(nil, int64(n)), b[1:]...))
		isDecoded(t, append(binary.AppendVarint(nil, -int64(n)), b[1:]...))
	}
	isCorrupt(t, make([]byte, 1<<20))
	isCorrupt(t, bytes.Repeat([]byte{0xff}, 1<<20))
	isCorrupt(t, bytes.Repeat([]byte{0x80}, 1<<20))
}

// P14.1: Decode of all short bytes.
func TestAllShort(t *testing.T) {
	isDecoded(t, nil)
	for i := range 1 << 16 {
		isDecoded(t, []byte{byte(i)})
		isDecoded(t, []byte{byte(i >> 8), byte(i)})
		isDecoded(t, []byte{2, 2, byte(i >> 8), byte(i), 0, 0})
		isDecoded(t, []byte{2, 2, 'a', byte(i >> 8), byte(i), 0})
		isDecoded(t, []byte{2, 2, 'a', byte(i >> 8), 0, byte(i)})
		isDecoded(t, []byte{2, 2, 'a', 2, byte(i >> 8), byte(i)})
		isDecoded(t, []byte{2, 2, 'a', 0x82, 1, byte(i >> 8), byte(i)})
		isDecoded(t, []byte{4, 2, byte(i >> 8), 0, 0, 0, 2, byte(i), 0, 0, 0})
	}
}

// P14.1: Decode of a list's bytes of which one is another one, is missing, or comes twice.
func TestOneByteWrong(t *testing.T) {
	b := asRuled([]Entry{file("\x00", 0, 0, 0), file("ab", 65, 5, 2), file("b", 64, 2048, 1), file("ba", 65536, 100, 1024), file("\xff", 1, 0, 1)})
	isDecoded(t, b)
	for i := range b {
		for c := range 256 {
			x := bytes.Clone(b)
			x[i] = byte(c)
			isDecoded(t, x)
			isDecoded(t, slices.Insert(bytes.Clone(b), i, byte(c)))
		}
		isDecoded(t, slices.Delete(bytes.Clone(b), i, i+1))
	}
}

// P14.1: long runs of lists, many of which may be, and of bytes near theirs.
func TestDrawn(t *testing.T) {
	x := uint64(14)
	for range 20000 {
		l := drawnList(&x)
		isRuled(t, l)
		b := asRuled(l)
		for range 4 {
			b[draw(&x, len(b))] ^= 1 << draw(&x, 8)
			isDecoded(t, b)
		}
		isDecoded(t, b[:draw(&x, len(b))])
	}
}

// drawnList answers a list, now and then of entries that may not be.
func drawnList(x *uint64) []Entry {
	var l []Entry
	name := ""
	for range draw(x, 35) {
		name = drawnName(x, name)
		n := draw(x, 66000)
		if draw(x, 3) == 0 {
			n = draw(x, 130)
		}
		e := file(name, n, draw(x, 2060), (n+63)/64)
		if n == 0 {
			e.Span.At = 0
		}
		if draw(x, 200) == 0 {
			e.Span.Len += draw(x, 3) - 1
		}
		l = append(l, e)
	}
	return l
}

// drawnName answers a name that most times comes behind the one ahead of it.
func drawnName(x *uint64, ahead string) string {
	b := []byte(ahead)
	if len(b) < 19 && draw(x, 2) == 0 {
		return ahead + string([]byte{byte(draw(x, 256))})
	}
	for len(b) > 0 && b[len(b)-1] == 255 {
		b = b[:len(b)-1]
	}
	if len(b) > 0 {
		b[len(b)-1]++
	}
	return string(b)
}

// P14.1: Find: where it stands, byte by byte; -1.
func TestFind(t *testing.T) {
	good, bad := names()
	var l []Entry
	for _, name := range good {
		l = append(l, file(name, 0, 0, 0))
	}
	for n := range len(l) + 1 {
		for i, name := range good {
			w := i
			if i >= n {
				w = -1
			}
			if got := Find(l[:n], name); got != w {
				t.Errorf("Find(%d of them, %q): %d, not %d", n, name, got, w)
			}
		}
		for _, name := range append(bad, "b", "aaa", "a\x01", "\u00c9", "\xfe", "N") {
			if got := Find(l[:n], name); got != -1 {
				t.Errorf("Find(%d of them, %.40q): %d, not -1", n, name, got)
			}
		}
	}
	for i, e := range many(32) {
		if got := Find(many(32), e.Name); got != i {
			t.Errorf("Find(32 of them, %q): %d, not %d", e.Name, got, i)
		}
	}
	if Find(nil, "") != -1 || Find(nil, "a") != -1 || Find([]Entry{}, "") != -1 {
		t.Error("Find in none")
	}
}

// P14.1, P0.1: Find in lists that may not be.
func TestFindAnywhere(t *testing.T) {
	l := []Entry{file("z", -1, -1, -1), file("a", 0, 5, 0), file("", math.MaxInt, math.MinInt, 3), file("m", 0, 0, 0), file(strings.Repeat("n", 40), 0, 0, 0)}
	for i, e := range l {
		if got := Find(l, e.Name); got != i {
			t.Errorf("Find(%q): %d, not %d", e.Name, got, i)
		}
	}
	if got := Find(append(l, l...), "a"); got != 1 {
		t.Errorf("Find of what stands twice: %d", got)
	}
	if got := Find(many(40), many(40)[39].Name); got != 39 {
		t.Errorf("Find in 40: %d", got)
	}
}

// P0.4: a nil list is as an empty one.
func TestNone(t *testing.T) {
	for _, l := range [][]Entry{nil, {}, make([]Entry, 0, 5)} {
		if b := Encode(l); !May(l) || string(b) != "\x00" {
			t.Errorf("none: %v, %x", May(l), b)
		}
	}
	if l, err := Decode([]byte{0}); len(l) != 0 || err != api.OK {
		t.Errorf("Decode of none: %v, %v", l, err)
	}
}

// P0.3: a list that is handed in stays, with its spare room.
func TestListStays(t *testing.T) {
	for _, n := range []int{0, 1, 7, 32, 33} {
		all := many(40)
		if n == 7 {
			all[3].Name = ""
		}
		was := slices.Clone(all)
		May(all[:n])
		Encode(all[:n])
		Find(all[:n], was[max(n-1, 0)].Name)
		if !slices.Equal(all, was) {
			t.Errorf("a list of %d has changed", n)
		}
	}
}

// P0.3: bytes that are handed in stay, and nothing of them is kept.
func TestBytesStay(t *testing.T) {
	w := many(7)
	all := append(asRuled(w), "....."...)
	was := bytes.Clone(all)
	l, err := Decode(all[:len(all)-5])
	isCorrupt(t, all[:len(all)-4])
	isCorrupt(t, all[:len(all)-6])
	if !bytes.Equal(all, was) {
		t.Error("the bytes have changed")
	}
	for i := range all {
		all[i] = '!'
	}
	if !slices.Equal(l, w) || err != api.OK {
		t.Errorf("the list has become %s, %v", told(l), err)
	}
}

// P0.3: answers are new memory, spare room too: whoever writes into one changes no other one.
func TestAnswersAreNew(t *testing.T) {
	for _, n := range []int{0, 1, 32} {
		l := many(n)
		b, c := Encode(l), Encode(l)
		kept := bytes.Clone(c[:cap(c)])
		b = b[:cap(b)]
		for i := range b {
			b[i] = '!'
		}
		if !bytes.Equal(c[:cap(c)], kept) {
			t.Errorf("%d: two answers of Encode share memory", n)
		}
		d, _ := Decode(c)
		e, _ := Decode(c)
		rest := slices.Clone(e[:cap(e)])
		d = d[:cap(d)]
		for i := range d {
			d[i] = file("!", -1, -1, -1)
		}
		if !slices.Equal(e[:cap(e)], rest) || !slices.Equal(e, l) {
			t.Errorf("%d: two answers of Decode share memory", n)
		}
		if again, err := Decode(Encode(l)); !slices.Equal(again, l) || err != api.OK {
			t.Errorf("%d: what was written into answers is kept", n)
		}
	}
}

// P0.5: behind other calls, failed ones too, the same call answers the same.
func TestAnswersHangOnArgumentsAlone(t *testing.T) {
	l := []Entry{file("ab", 65, 5, 2)}
	for range 3 {
		if got := Encode(l); !May(l) || string(got) != "\x02\x04ab\x82\x01\x0a\x04" {
			t.Errorf("Encode: %x", got)
		}
		if got, err := Decode([]byte("\x02\x04ab\x82\x01\x0a\x04")); !slices.Equal(got, l) || err != api.OK {
			t.Errorf("Decode: %v, %v", got, err)
		}
		isCorrupt(t, []byte("\x02\x04ab\x82\x01\x0a"))
		if May(many(33)) || Encode(many(33)) != nil || Find(l, "ab") != 0 || Find(l, "a") != -1 {
			t.Error("May, Encode or Find")
		}
	}
}
