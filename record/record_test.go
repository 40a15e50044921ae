package record

import (
	"bytes"
	"encoding/binary"
	"math"
	"slices"
	"strings"
	"testing"
	"unicode/utf8"
	"unsafe"

	"loess/api"
	"loess/fresh"
)

// goodKeys may be, up to the last byte that fits.
func goodKeys() []string {
	return []string{
		"\x00", "a", "\xff", "\x80\xbf", "ab", "\ufffd", "\u00e9\u2603\U0001f600",
		strings.Repeat("k", 15), strings.Repeat("k", 16), strings.Repeat("\x00", 16), strings.Repeat("\xff", 16), strings.Repeat("\u00e9", 8),
	}
}

// badKeys may not be: no bytes, or too many.
func badKeys() []string {
	return []string{
		"", strings.Repeat("k", 17), strings.Repeat("\x00", 17), strings.Repeat("\u00e9", 8) + "k", strings.Repeat("\xff", 24), strings.Repeat("k", 1<<8+1), strings.Repeat("k", 1<<16),
	}
}

// goodVals may be.
func goodVals() []api.Raw {
	l := []api.Raw{}
	for _, n := range []int64{0, -1, 1, 63, 64, -64, -65, 1 << 40, math.MaxInt64, math.MinInt64} {
		l = append(l, api.Raw{Kind: api.VNum, N: n})
	}
	for _, s := range []string{"", "\x00", "ab", "\ufffd", "\u00e9\u2603\U0001f600", strings.Repeat("x", 24), strings.Repeat("\u00e9", 12)} {
		l = append(l, api.Raw{Kind: api.VText, S: s})
	}
	return l
}

// badVals may not be; the first one is the one of what is gone.
func badVals() []api.Raw {
	return []api.Raw{
		{}, {N: 1}, {S: "a"}, {N: -1, S: "a"},
		{Kind: api.VNum, S: "a"}, {Kind: api.VNum, N: 1, S: "\x00"}, {Kind: api.VText, N: 1}, {Kind: api.VText, N: -1, S: "a"},
		{Kind: api.VText, S: "\xff"}, {Kind: api.VText, S: "\xed\xa0\x80"}, {Kind: api.VText, S: strings.Repeat("x", 25)}, {Kind: api.VText, S: strings.Repeat("x", 1<<16+1)},
		{Kind: 3}, {Kind: 3, N: 1}, {Kind: -1}, {Kind: 257}, {Kind: math.MaxInt}, {Kind: math.MinInt},
	}
}

// good are records that may be, each once.
func good() []api.Rec {
	l := []api.Rec{}
	for _, k := range goodKeys() {
		l = append(l, api.Rec{Key: k, Gone: true})
		for _, v := range goodVals() {
			l = append(l, api.Rec{Key: k, Val: v})
		}
	}
	return l
}

// bad are records that may not be, each once.
func bad() []api.Rec {
	l := []api.Rec{}
	for _, v := range badVals() {
		for _, k := range goodKeys() {
			l = append(l, api.Rec{Key: k, Val: v})
			if v != (api.Raw{}) {
				l = append(l, api.Rec{Key: k, Gone: true, Val: v})
			}
		}
		for _, k := range badKeys() {
			l = append(l, api.Rec{Key: k, Val: v}, api.Rec{Key: k, Gone: true, Val: v})
		}
	}
	for _, v := range goodVals() {
		for _, k := range append(goodKeys(), badKeys()...) {
			l = append(l, api.Rec{Key: k, Gone: true, Val: v})
		}
		for _, k := range badKeys() {
			l = append(l, api.Rec{Key: k, Val: v})
		}
	}
	return l
}

// textAsRuled writes s, its length by the library's own seven bits a byte.
func textAsRuled(s string) []byte {
	return append(binary.AppendVarint(nil, int64(len(s))), s...)
}

// asRuled writes r by the promise's own words, whether it may be or not.
func asRuled(r api.Rec) []byte {
	b := textAsRuled(r.Key)
	if r.Gone {
		return binary.AppendVarint(b, 0)
	}
	b = binary.AppendVarint(b, int64(r.Val.Kind))
	if r.Val.Kind == api.VText {
		return append(b, textAsRuled(r.Val.S)...)
	}
	return binary.AppendVarint(b, r.Val.N)
}

func mustGet(t *testing.T, b []byte, r api.Rec, n int) {
	t.Helper()
	if got, k, err := Get(b); got != r || k != n || err != api.OK {
		t.Errorf("Get(%.60x): %v, %d, %d, not %v, %d", b, got, k, err, r, n)
	}
}

func mustFailGet(t *testing.T, b []byte, want api.Errno) {
	t.Helper()
	if r, k, err := Get(b); r != (api.Rec{}) || k != 0 || err != want {
		t.Errorf("Get(%.60x): %v, %d, %d, not none, 0, %d", b, r, k, err, want)
	}
}

// P10.1: the key may be, and so may the value, or none is there of what is gone.
func TestMay(t *testing.T) {
	for _, r := range good() {
		if !May(r) {
			t.Errorf("May(%.60v): false", r)
		}
	}
	for _, r := range bad() {
		if May(r) {
			t.Errorf("May(%.60v): true", r)
		}
	}
	if May(api.Rec{}) || May(api.Rec{Gone: true}) {
		t.Error("a record of no key may be")
	}
}

// P10.1: keys of every length, and values' texts of every length.
func TestMayLengths(t *testing.T) {
	for n := range 60 {
		s := strings.Repeat("k", n)
		if got := May(api.Rec{Key: s, Gone: true}); got != (n >= 1 && n <= 16) {
			t.Errorf("a key of %d bytes, gone: %v", n, got)
		}
		if got := May(api.Rec{Key: s, Val: api.Raw{Kind: api.VNum}}); got != (n >= 1 && n <= 16) {
			t.Errorf("a key of %d bytes: %v", n, got)
		}
		if got := May(api.Rec{Key: "k", Val: api.Raw{Kind: api.VText, S: s}}); got != (n <= 24) {
			t.Errorf("a text of %d bytes: %v", n, got)
		}
	}
}

// P10.1: a key is of any bytes, a value's text is written in its bytes.
func TestMayBytes(t *testing.T) {
	for i := range 1 << 16 {
		s := string([]byte{byte(i >> 8), byte(i)})
		if !May(api.Rec{Key: s, Gone: true}) {
			t.Fatalf("the key %q: false", s)
		}
		if got := May(api.Rec{Key: "k", Val: api.Raw{Kind: api.VText, S: s}}); got != utf8.ValidString(s) {
			t.Fatalf("the text %q: %v", s, got)
		}
	}
}

// P10.1: the same Key, Gone, Val, of records that may not be too.
func TestEq(t *testing.T) {
	l := slices.Concat(good(), bad())
	for i, a := range l {
		for j, b := range l {
			if Eq(a, b) != (i == j) {
				t.Fatalf("Eq(%.60v, %.60v): %v", a, b, i != j)
			}
		}
	}
	// Not by the runes, and not by the memory.
	if Eq(api.Rec{Key: "\xfe", Gone: true}, api.Rec{Key: "\xff", Gone: true}) {
		t.Error("keys of the same runes are the same")
	}
	for _, r := range l {
		if !Eq(r, fresh.Rec(r)) {
			t.Errorf("%.60v is not the same in other memory", r)
		}
	}
}

func TestPutBytes(t *testing.T) {
	for _, c := range []struct {
		r    api.Rec
		want string
	}{
		{api.Rec{Key: "a", Gone: true}, "\x02a\x00"},
		{api.Rec{Key: "\x00\xff", Gone: true}, "\x04\x00\xff\x00"},
		{api.Rec{Key: strings.Repeat("k", 16), Gone: true}, "\x20kkkkkkkkkkkkkkkk\x00"},
		{api.Rec{Key: "a", Val: api.Raw{Kind: api.VNum}}, "\x02a\x02\x00"},
		{api.Rec{Key: "a", Val: api.Raw{Kind: api.VNum, N: -65}}, "\x02a\x02\x81\x01"},
		{api.Rec{Key: "a", Val: api.Raw{Kind: api.VText}}, "\x02a\x04\x00"},
		{api.Rec{Key: "ab", Val: api.Raw{Kind: api.VText, S: "red"}}, "\x04ab\x04\x06red"},
	} {
		if got := Put(nil, c.r); string(got) != c.want {
			t.Errorf("Put(nil, %v): %x, not %x", c.r, got, c.want)
		}
	}
}

// P10.1: back comes what was put, whatever stands behind it, and ErrMore wherever it is cut off.
func TestThereAndBack(t *testing.T) {
	for _, r := range good() {
		want := asRuled(r)
		if got := Put([]byte("xy"), r); string(got) != "xy"+string(want) {
			t.Errorf("Put(xy, %v): %x, not xy and %x", r, got, want)
		}
		for _, behind := range []string{"", "\x00", "\x80", "\xff\xff", "\x02a\x00"} {
			mustGet(t, append(bytes.Clone(want), behind...), r, len(want))
		}
		for k := range want {
			mustFailGet(t, want[:k], api.ErrMore)
		}
	}
}

// P10.1: records one behind the other.
func TestInARow(t *testing.T) {
	var b []byte
	for _, r := range good() {
		b = Put(b, r)
	}
	for _, r := range good() {
		got, n, err := Get(b)
		if got != r || err != api.OK {
			t.Fatalf("%v, %d, not %v", got, err, r)
		}
		b = b[n:]
	}
	if len(b) != 0 {
		t.Errorf("behind the last one stands %x", b)
	}
}

// Of what may not be Put writes nothing, not even a key that may be, or a value.
func TestPutOfWhatMayNotBe(t *testing.T) {
	for _, r := range bad() {
		if got := Put([]byte("xy"), r); string(got) != "xy" {
			t.Errorf("Put(xy, %.60v): %.60x", r, got)
		}
		if got := Put(nil, r); len(got) != 0 {
			t.Errorf("Put(nil, %.60v): %.60x", r, got)
		}
	}
}

// behinds are what may stand behind a key: a record's rest, cut off ones, wrong ones.
var behinds = []string{"", "\x00", "\x80", "\x80\x00", "\x02", "\x02\x00", "\x04\x02", "\x04\x02a", "\x04\x02\xff", "\x06", "\xff"}

// P10.1: a key that may not be is ErrForm, ahead of all that stands behind it.
func TestGetAsksTheKeyFirst(t *testing.T) {
	for _, k := range badKeys() {
		for _, behind := range behinds {
			mustFailGet(t, append(textAsRuled(k), behind...), api.ErrForm)
		}
	}
	for n := 17; n < 70; n++ {
		mustFailGet(t, textAsRuled(strings.Repeat("k", n)), api.ErrForm)
	}
	// Cut off within the key: its text is not there, so num's error.
	for _, k := range badKeys() {
		b := textAsRuled(k)
		mustFailGet(t, b[:len(b)-1], api.ErrMore)
	}
}

// P10.1: num's errors of the key.
func TestGetTellsErrorsOfTheKey(t *testing.T) {
	long := strings.Repeat("\x80", 9)
	for _, c := range []struct {
		b    string
		want api.Errno
	}{
		{"", api.ErrMore},
		{"\x80", api.ErrMore},
		{"\x02", api.ErrMore},
		{"\x04a", api.ErrMore},
		{"\x22kkkkkkkkkkkkkkkk", api.ErrMore},
		{"\x80\x80\x08", api.ErrMore},
		{long, api.ErrMore},
		{"\x01a\x00", api.ErrForm},
		{"\x03a\x00", api.ErrForm},
		{"\x82\x00a\x00", api.ErrForm},
		{"\x80\x00", api.ErrForm},
		{"\x82\x80\x08", api.ErrForm},
		{long + "\x02", api.ErrForm},
	} {
		mustFailGet(t, []byte(c.b), c.want)
	}
	mustFailGet(t, nil, api.ErrMore)
}

// P10.1: the errors of the value, behind each key that may be.
func TestGetTellsErrorsOfTheValue(t *testing.T) {
	long := strings.Repeat("\x80", 9)
	for _, c := range []struct {
		b    string
		want api.Errno
	}{
		{"", api.ErrMore},
		{"\x80", api.ErrMore},
		{"\x82", api.ErrMore},
		{long, api.ErrMore},
		{"\x80\x00", api.ErrForm}, // Gone, written longer than needed.
		{"\x80\x80\x00", api.ErrForm},
		{"\x82\x00\x00", api.ErrForm},
		{"\x84\x00\x00", api.ErrForm},
		{long + "\x02", api.ErrForm},
		{"\x01", api.ErrForm},
		{"\x03", api.ErrForm},
		{"\x06", api.ErrForm},
		{"\x06\x00", api.ErrForm},
		{"\x80\x04", api.ErrForm},
		{"\x80\x80\x80\x80\x20", api.ErrForm}, // 2^32 is not 0.
		{"\x02", api.ErrMore},
		{"\x02\x80", api.ErrMore},
		{"\x02" + long, api.ErrMore},
		{"\x02\x80\x00", api.ErrForm},
		{"\x02" + long + "\x02", api.ErrForm},
		{"\x04", api.ErrMore},
		{"\x04\x02", api.ErrMore},
		{"\x04\x32" + strings.Repeat("x", 24), api.ErrMore},
		{"\x04\x32" + strings.Repeat("x", 25), api.ErrForm},
		{"\x04\x01", api.ErrForm},
		{"\x04\x82\x80\x08", api.ErrForm},
		{"\x04\x02\xff", api.ErrForm},
		{"\x04\x06\xed\xa0\x80", api.ErrForm},
	} {
		for _, k := range goodKeys() {
			mustFailGet(t, append(textAsRuled(k), c.b...), c.want)
		}
	}
}

// P10.1: another kind is ErrForm whatever stands behind it, but 0 is gone and nothing behind it is asked.
func TestGetOfKinds(t *testing.T) {
	for kind := int64(-300); kind <= 300; kind++ {
		if kind == api.VNum || kind == api.VText {
			continue
		}
		b := binary.AppendVarint(textAsRuled("ab"), kind)
		for _, behind := range behinds {
			if kind == 0 {
				mustGet(t, append(bytes.Clone(b), behind...), api.Rec{Key: "ab", Gone: true}, 4)
				continue
			}
			mustFailGet(t, append(bytes.Clone(b), behind...), api.ErrForm)
		}
	}
}

// What Get takes of any bytes is just what Put writes of it, and it may be.
func TestGetAllShort(t *testing.T) {
	b := []byte("\x02a....")
	for i := range 1 << 24 {
		b[2], b[3], b[4] = byte(i>>16), byte(i>>8), byte(i)
		for _, p := range [][]byte{b[2:5], b[:5]} {
			r, k, err := Get(p)
			if err == api.OK {
				if k < 3 || k > len(p) || !May(r) || !bytes.Equal(asRuled(r), p[:k]) {
					t.Fatalf("Get(%x): %v, %d", p, r, k)
				}
				continue
			}
			if r != (api.Rec{}) || k != 0 || err != api.ErrForm && err != api.ErrMore {
				t.Fatalf("Get(%x): %v, %d, %d", p, r, k, err)
			}
		}
	}
}

// newestAsRuled goes by the promise's own words: a record stays if none of its key comes behind it, and is laid ahead of the first one whose key is greater.
func newestAsRuled(l []api.Rec) []api.Rec {
	var out []api.Rec
	for i, r := range l {
		if slices.ContainsFunc(l[i+1:], func(x api.Rec) bool { return x.Key == r.Key }) {
			continue
		}
		at := 0
		for at < len(out) && bytes.Compare([]byte(out[at].Key), []byte(r.Key)) < 0 {
			at++
		}
		out = slices.Insert(out, at, r)
	}
	return out
}

func mustBeNewest(t *testing.T, l []api.Rec) {
	t.Helper()
	if got, want := Newest(l), newestAsRuled(l); !slices.Equal(got, want) {
		t.Fatalf("Newest(%.200v): %.200v, not %.200v", l, got, want)
	}
}

// P10.1: all lists of up to six of six records, of three keys.
func TestNewestOfAll(t *testing.T) {
	var all []api.Rec
	for _, k := range []string{"b", "a", "ab"} {
		all = append(all, api.Rec{Key: k, Gone: true}, api.Rec{Key: k, Val: api.Raw{Kind: api.VNum, N: 1}})
	}
	for n, lists := 0, 1; n <= 6; n, lists = n+1, lists*len(all) {
		for i := range lists {
			l := []api.Rec{}
			for range n {
				l = append(l, all[i%len(all)])
				i /= len(all)
			}
			mustBeNewest(t, l)
		}
	}
}

// P10.1: keys rise byte by byte, not rune by rune; records that may not be stand like others.
func TestNewestOfEdges(t *testing.T) {
	one := api.Raw{Kind: api.VNum, N: 1}
	rising := []string{"", "\x00", "\x00\x00", "A", "Z", "a", "a\x00", "aa", "ab", "b", "\x7f", "\x80", "\u00e9", "\ufffd", "\U0001f600", "\xfe", "\xff", "\xff\x00", "\xff\xff"}
	var up, down []api.Rec
	for _, k := range rising {
		up = append(up, api.Rec{Key: k, Val: one})
	}
	for _, r := range up {
		down = slices.Insert(down, 0, r)
	}
	for _, l := range [][]api.Rec{up, down, slices.Concat(up, down), slices.Concat(down, up)} {
		if got := Newest(l); !slices.Equal(got, up) {
			t.Errorf("Newest(%v): %v", l, got)
		}
	}
	all := slices.Concat(good(), bad(), good())
	mustBeNewest(t, all)
	mustBeNewest(t, slices.Concat(bad(), good()))
	slices.Reverse(all)
	mustBeNewest(t, all)
	last := []api.Rec{{Key: "a", Val: one}, {Key: "a", Gone: true, Val: one}, {Key: "a"}, {Key: "b", Gone: true}, {Key: "b", Val: one}}
	if got := Newest(last); !slices.Equal(got, []api.Rec{{Key: "a"}, {Key: "b", Val: one}}) {
		t.Errorf("Newest(%v): %v", last, got)
	}
}

// P0.4: of nothing nothing.
func TestNewestOfNone(t *testing.T) {
	for _, l := range [][]api.Rec{nil, {}, make([]api.Rec, 0, 5)} {
		if got := Newest(l); len(got) != 0 {
			t.Errorf("Newest of none: %v", got)
		}
	}
}

// P0.1, P0.5: long lists end, and the same is answered each time.
func TestNewestOfMany(t *testing.T) {
	const n, keys = 1 << 17, 5003
	l := make([]api.Rec, n)
	for i := range l {
		k := string([]byte{byte(i * 7 % keys >> 8), byte(i * 7 % keys)})
		l[i] = api.Rec{Key: k, Val: api.Raw{Kind: api.VNum, N: int64(i)}}
	}
	for range 3 {
		got := Newest(l)
		if len(got) != keys {
			t.Fatalf("%d records", len(got))
		}
		for i, r := range got {
			at := int(r.Val.N)
			if at < n-keys || r != l[at] || i > 0 && got[i-1].Key >= r.Key {
				t.Fatalf("at %d stands %v", i, r)
			}
		}
	}
}

// P0.3: a list that is handed in stays, with its spare room, and an answer shares no memory with it nor with another.
func TestNewestIsNew(t *testing.T) {
	room := []api.Rec{{Key: "b", Gone: true}, {Key: "a", Val: api.Raw{Kind: api.VText, S: "one"}}, {Key: "b", Val: api.Raw{Kind: api.VText, S: "two"}}, {Key: "spare"}, {Key: "spare too"}}
	was := slices.Clone(room)
	for n := range 4 {
		first, second := Newest(room[:n]), Newest(room[:n])
		want := newestAsRuled(was[:n])
		first = first[:cap(first)]
		for i := range first {
			first[i] = api.Rec{Key: "!"}
		}
		if !slices.Equal(room, was) || !slices.Equal(second, want) {
			t.Errorf("of %d: %v has become %v, and the answer %v", n, was, room, second)
		}
	}
	got := Newest(room[:3])
	for i := range room {
		room[i] = api.Rec{Key: "?"}
	}
	if !slices.Equal(got, newestAsRuled(was[:3])) {
		t.Errorf("the answer has become %v", got)
	}
	for _, r := range got {
		for _, x := range was {
			if unsafe.StringData(r.Key) == unsafe.StringData(x.Key) || r.Val.S != "" && unsafe.StringData(r.Val.S) == unsafe.StringData(x.Val.S) {
				t.Errorf("%v shares memory with %v", r, x)
			}
		}
	}
}

// P0.4: a nil list is as an empty one.
func TestPutBehindNone(t *testing.T) {
	for _, b := range [][]byte{nil, {}, make([]byte, 0, 40)} {
		if got := Put(b, api.Rec{Key: "a", Gone: true}); string(got) != "\x02a\x00" {
			t.Errorf("Put(%v): %x", b, got)
		}
		if got := Put(b, api.Rec{}); len(got) != 0 {
			t.Errorf("Put(%v) of none: %x", b, got)
		}
	}
}

// P0.3: the bytes that are handed in stay, with their spare room, whatever is written into the answer.
func TestPutIsNew(t *testing.T) {
	for _, r := range []api.Rec{{Key: "key", Gone: true}, {Key: "key", Val: api.Raw{Kind: api.VNum, N: 5}}, {Key: "key", Val: api.Raw{Kind: api.VText, S: "red"}}, {}, {Key: "key"}} {
		for _, used := range []int{0, 3} {
			all := bytes.Repeat([]byte{'.'}, 40)
			first, second := Put(all[:used], r), Put(all[:used], r)
			kept := bytes.Clone(second[:cap(second)])
			first = first[:cap(first)]
			for i := range first {
				first[i] = '!'
			}
			if !bytes.Equal(all, bytes.Repeat([]byte{'.'}, 40)) {
				t.Errorf("Put of %v: the argument has become %q", r, all)
			}
			for i := range all {
				all[i] = '?'
			}
			if !bytes.Equal(second[:cap(second)], kept) {
				t.Errorf("Put of %v: the answer shares memory", r)
			}
		}
	}
}

// P0.3: Get leaves the bytes alone, and what it answers keeps nothing of them.
func TestGetLeavesBytes(t *testing.T) {
	want := api.Rec{Key: "key", Val: api.Raw{Kind: api.VText, S: "red"}}
	b := Put(nil, want)
	was := bytes.Clone(b)
	r, _, _ := Get(b)
	if !bytes.Equal(b, was) {
		t.Errorf("the argument has become %x", b)
	}
	for i := range b {
		b[i] = '!'
	}
	if r != want {
		t.Errorf("the record has become %v", r)
	}
}

// P0.5: behind other calls, failed ones too, the same call answers the same.
func TestAnswersHangOnArgumentsAlone(t *testing.T) {
	r := api.Rec{Key: "\xff", Val: api.Raw{Kind: api.VNum, N: -1}}
	for range 3 {
		mustGet(t, []byte("\x02\xff\x02\x01\x80"), r, 4)
		mustFailGet(t, []byte("\x02\xff\x02"), api.ErrMore)
		mustFailGet(t, []byte("\x00"), api.ErrForm)
		if string(Put([]byte("x"), r)) != "x\x02\xff\x02\x01" || !May(r) || May(api.Rec{}) {
			t.Errorf("%v is answered otherwise", r)
		}
		mustBeNewest(t, []api.Rec{r, {Key: "a", Gone: true}, r})
	}
}

// P0.1: long bytes and texts end.
func TestLong(t *testing.T) {
	long := strings.Repeat("k", 1<<20)
	for _, r := range []api.Rec{{Key: long, Gone: true}, {Key: "k", Val: api.Raw{Kind: api.VText, S: long}}, {Key: long, Val: api.Raw{Kind: api.VText, S: long}}} {
		if May(r) || len(Put(nil, r)) != 0 || !Eq(r, r) || len(Newest([]api.Rec{r, r})) != 1 {
			t.Error("a long text is answered wrong")
		}
	}
	mustFailGet(t, textAsRuled(long), api.ErrForm)
	mustFailGet(t, append([]byte("\x02k\x04"), textAsRuled(long)...), api.ErrForm)
	mustGet(t, append([]byte("\x02k\x00"), long...), api.Rec{Key: "k", Gone: true}, 3)
}
