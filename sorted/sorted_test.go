package sorted

import (
	"bytes"
	"encoding/binary"
	"fmt"
	"math"
	"math/rand"
	"slices"
	"strings"
	"testing"
	"unicode/utf8"
	"unsafe"

	"loess/api"
	"loess/hash"
)

// number answers a pair of a number.
func number(k string, n int64) api.Pair {
	return api.Pair{Key: k, Val: api.Raw{Kind: api.VNum, N: n}}
}

// text answers a pair of a text.
func text(k, s string) api.Pair {
	return api.Pair{Key: k, Val: api.Raw{Kind: api.VText, S: s}}
}

// kinds are pairs of k that may be, of all kinds.
func kinds(k string) []api.Pair {
	return []api.Pair{
		number(k, 0), number(k, -1), number(k, 64), number(k, math.MaxInt64), number(k, math.MinInt64),
		text(k, ""), text(k, "\x00"), text(k, "\u00e9\ufffd"), text(k, strings.Repeat("x", 24)),
	}
}

// bad are pairs that may not be, of the key k where it is not the key that may not be.
func bad(k string) []api.Pair {
	l := []api.Pair{
		{}, {Key: k}, {Key: k, Val: api.Raw{N: 1}}, {Key: k, Val: api.Raw{S: "s"}},
		{Key: k, Val: api.Raw{Kind: api.VNum, S: "s"}}, {Key: k, Val: api.Raw{Kind: api.VText, N: 1}},
		{Key: k, Val: api.Raw{Kind: 3}}, {Key: k, Val: api.Raw{Kind: -1}}, {Key: k, Val: api.Raw{Kind: math.MaxInt}}, {Key: k, Val: api.Raw{Kind: math.MinInt}},
		text(k, strings.Repeat("x", 25)), text(k, "\xff"), text(k, "\xed\xa0\x80"), text(k, strings.Repeat("x", 1<<16+1)),
	}
	for _, k := range []string{"", strings.Repeat("k", 17), strings.Repeat("\x80", 64), strings.Repeat("k", 1<<16+1)} {
		l = append(l, number(k, 0), text(k, "s"))
	}
	return l
}

// twins answers n keys of one hash, at most 4,096: bytes with which no rune begins are one rune.
func twins(n int) []string {
	var l []string
	for i := range n {
		// Not in the order of their bytes: 25 and 4,096 have no divisor in common.
		i = i * 25 % 4096
		l = append(l, string([]byte{byte(0x80 + i/64), byte(0x80 + i%64)}))
	}
	return l
}

// mark answers a text that stands among the marks of other keys as k stands among these keys: by hash, then byte by byte.
func mark(k string) string {
	return fmt.Sprintf("%016x", hash.Of(k)) + k
}

// arranged answers l in order.
func arranged(l []api.Pair) []api.Pair {
	l = slices.Clone(l)
	slices.SortFunc(l, func(a, b api.Pair) int { return strings.Compare(mark(a.Key), mark(b.Key)) })
	return l
}

// mayAsRuled tells whether l may be a Store's pairs.
func mayAsRuled(l []api.Pair) bool {
	for i, p := range l {
		if len(p.Key) < 1 || len(p.Key) > 16 || i > 0 && mark(l[i-1].Key) >= mark(p.Key) {
			return false
		}
		isNum := p.Val.Kind == 1 && p.Val.S == ""
		isText := p.Val.Kind == 2 && p.Val.N == 0 && len(p.Val.S) <= 24 && utf8.ValidString(p.Val.S)
		if !isNum && !isText {
			return false
		}
	}
	return len(l) <= 1000
}

// addText writes a text behind b.
func addText(b []byte, s string) []byte {
	return append(binary.AppendVarint(b, int64(len(s))), s...)
}

// bytesOf writes n and, behind it, the pairs of l, whether they may be or not.
func bytesOf(n int64, l []api.Pair) []byte {
	b := binary.AppendVarint(nil, n)
	for _, p := range l {
		b = binary.AppendVarint(addText(b, p.Key), int64(p.Val.Kind))
		if p.Val.Kind == 2 {
			b = addText(b, p.Val.S)
		} else {
			b = binary.AppendVarint(b, p.Val.N)
		}
	}
	return b
}

// asRuled writes l.
func asRuled(l []api.Pair) []byte {
	return bytesOf(int64(len(l)), l)
}

// reading is bytes that are read from the first one on; bad: they were not what was asked for.
type reading struct {
	rest []byte
	bad  bool
}

// number reads one number.
func (r *reading) number() int64 {
	n, k := binary.Varint(r.rest)
	if k <= 0 {
		r.bad = true
		return 0
	}
	r.rest = r.rest[k:]
	return n
}

// text reads one text.
func (r *reading) text() string {
	n := r.number()
	if n < 0 || n > int64(len(r.rest)) {
		r.bad = true
		return ""
	}
	s := string(r.rest[:n])
	r.rest = r.rest[n:]
	return s
}

// readAsRuled answers the pairs whose bytes b is, if it is any's.
func readAsRuled(b []byte) ([]api.Pair, bool) {
	r := &reading{rest: b}
	var l []api.Pair
	for n := r.number(); n > 0 && !r.bad; n-- {
		p := api.Pair{Key: r.text(), Val: api.Raw{Kind: int(r.number())}}
		if p.Val.Kind == 2 {
			p.Val.S = r.text()
		} else {
			p.Val.N = r.number()
		}
		l = append(l, p)
	}
	// What is not written as it would be again has more bytes than it needs, or others.
	return l, !r.bad && mayAsRuled(l) && bytes.Equal(asRuled(l), b)
}

// readsOf answers how many pairs of l are of the hash to which k's bits lead: a bit goes to those that have it, until just one hash is left, or none.
func readsOf(l []api.Pair, k string) int {
	h := hash.Of(k)
	count := map[uint64]int{}
	for _, p := range l {
		count[hash.Of(p.Key)]++
	}
	for d := 63; len(count) > 1; d-- {
		for x := range count {
			if x>>d&1 != h>>d&1 {
				delete(count, x)
			}
		}
	}
	for _, n := range count {
		return n
	}
	return 0
}

// drawn answers n pairs in order as r draws them, of which about one in ten is a twin.
func drawn(r *rand.Rand, n int) []api.Pair {
	same := twins(n)
	var l []api.Pair
	for i := range n {
		k := fmt.Sprint("key", i, " ", r.Intn(1000))
		if r.Intn(10) == 0 {
			k = same[i]
		}
		all := kinds(k)
		l = append(l, all[r.Intn(len(all))])
	}
	return arranged(l)
}

// lists answers pairs that may be, of many numbers of them.
func lists() [][]api.Pair {
	r := rand.New(rand.NewSource(22))
	var l [][]api.Pair
	for n := range 41 {
		l = append(l, drawn(r, n))
	}
	for _, n := range []int{63, 64, 65, 127, 128, 300} {
		l = append(l, drawn(r, n))
	}
	return l
}

// strangers are texts of which most are keys of no pair; some may be no keys.
func strangers() []string {
	l := []string{
		"", "a", "none", "key", "key0", "\x80", "\xff", "\xef\xbf\xbd", "\x00", "\xff\xff", "\xef\xbf\xbd\xff", strings.Repeat("k", 16), strings.Repeat("k", 17),
		strings.Repeat("\x80", 16), strings.Repeat("\x80", 17), strings.Repeat("key1", 100),
	}
	for i := range 30 {
		l = append(l, fmt.Sprint("stranger", i))
	}
	return l
}

// told answers what a message says of x: quoted, and not without end.
func told(x any) string {
	return fmt.Sprintf("%.400q", fmt.Sprint(x))
}

// asked holds that Get and Reads of k are as l lets them be; m is the values of l.
func asked(t *testing.T, s *Store, l []api.Pair, m map[string]api.Raw, k string) {
	t.Helper()
	want, has := m[k]
	if got, ok := s.Get(k); ok != has || got != want {
		t.Fatalf("Get(%.40q): %s, %v, not %s, %v", k, told(got), ok, told(want), has)
	}
	if got, want := s.Reads(k), readsOf(l, k); got != want {
		t.Fatalf("Reads(%.40q): %d, not %d", k, got, want)
	}
}

// isOf holds that s tells just what l has, in all ways.
func isOf(t *testing.T, s *Store, l []api.Pair) {
	t.Helper()
	m := map[string]api.Raw{}
	for _, p := range l {
		m[p.Key] = p.Val
	}
	for _, p := range l {
		asked(t, s, l, m, p.Key)
		asked(t, s, l, m, p.Key+"\x00")
		asked(t, s, l, m, p.Key[1:])
	}
	for _, k := range strangers() {
		asked(t, s, l, m, k)
	}
	if got := s.List(); !slices.Equal(got, l) {
		t.Fatalf("List: %s, not %s", told(got), told(l))
	}
	if got := s.Len(); got != len(l) {
		t.Fatalf("Len: %d, not %d", got, len(l))
	}
	if got := s.Bytes(); !bytes.Equal(got, asRuled(l)) {
		t.Fatalf("Bytes: %.200x, not %.200x", got, asRuled(l))
	}
}

// made answers the Stores of l, which may be, by New and by Open.
func made(t *testing.T, l []api.Pair) []*Store {
	t.Helper()
	if !mayAsRuled(l) {
		t.Fatalf("the test is wrong: %s", told(l))
	}
	a, err := New(l)
	if a == nil || err != api.OK {
		t.Fatalf("New(%s): %v", told(l), err)
	}
	b, err := Open(asRuled(l))
	if b == nil || err != api.OK {
		t.Fatalf("Open(%.200x): %v", asRuled(l), err)
	}
	return []*Store{a, b}
}

// both answers the Stores of l, and holds that they are of l.
func both(t *testing.T, l []api.Pair) []*Store {
	t.Helper()
	out := made(t, l)
	for _, s := range out {
		isOf(t, s, l)
	}
	return out
}

// isForm holds that l may be no Store's pairs.
func isForm(t *testing.T, l []api.Pair) {
	t.Helper()
	if s, err := New(l); s != nil || err != api.ErrForm {
		t.Errorf("New(%s): %s, %v, not ErrForm", told(l), told(s.List()), err)
	}
}

// isCorrupt holds that b is no Store's bytes.
func isCorrupt(t *testing.T, b []byte) {
	t.Helper()
	if s, err := Open(b); s != nil || err != api.ErrCorrupt {
		t.Errorf("Open(%.200x): %s, %v, not ErrCorrupt", b, told(s.List()), err)
	}
}

// isAsRuled holds that Open takes b just if it is some pairs' bytes, and as these, and tells whether it is.
func isAsRuled(t *testing.T, b []byte) bool {
	t.Helper()
	l, ok := readAsRuled(b)
	if !ok {
		isCorrupt(t, b)
		return false
	}
	s, err := Open(b)
	if s == nil || err != api.OK || !slices.Equal(s.List(), l) || !bytes.Equal(s.Bytes(), b) {
		t.Errorf("Open(%.200x): %s, %v, not %s", b, told(s.List()), err, told(l))
	}
	return true
}

// isNeither holds that l may be no Store's pairs, nor its bytes any Store's.
func isNeither(t *testing.T, l []api.Pair) {
	t.Helper()
	isForm(t, l)
	isCorrupt(t, asRuled(l))
}

// P22.1: Less is by hash, and of one hash byte by byte, of texts that may be no keys too.
func TestLess(t *testing.T) {
	l := append(strangers(), twins(20)...)
	l = append(l, "red", "blue", "green", "b", "c", "d", "e", "a\x00", "\u00e9", "A", strings.Repeat("k", 1<<16))
	var byHash, against, oneHash int
	for _, a := range l {
		for _, b := range l {
			want := mark(a) < mark(b)
			if got := Less(a, b); got != want {
				t.Errorf("Less(%.40q, %.40q): %v", a, b, got)
			}
			switch {
			case !want:
			case hash.Of(a) == hash.Of(b):
				oneHash++
			case a < b:
				byHash++
			default:
				against++
			}
		}
	}
	if byHash < 500 || against < 500 || oneHash < 100 {
		t.Errorf("the texts are poor: %d, %d, %d", byHash, against, oneHash)
	}
}

// P22.1: what Less says of some keys, written out: their hashes begin by 0777, 0c2f and 082b, hexadecimal, of those of red, blue and a.
func TestLessWrittenOut(t *testing.T) {
	for i, a := range []string{"red", "a", "blue"} {
		for j, b := range []string{"red", "a", "blue"} {
			if Less(a, b) != (i < j) {
				t.Errorf("Less(%q, %q): %v", a, b, Less(a, b))
			}
		}
	}
	if !Less("\x80", "\x81") || Less("\x81", "\x80") || Less("\x80", "\x80") || !Less("\x81", "\xef\xbf\xbd") {
		t.Error("Less of one hash")
	}
}

// P22.1: pairs of many numbers.
func TestHowMany(t *testing.T) {
	for _, l := range lists() {
		both(t, l)
	}
}

// P22.1: 1,000 pairs are the most.
func TestMost(t *testing.T) {
	r := rand.New(rand.NewSource(1))
	both(t, drawn(r, 1000))
	made(t, drawn(r, 999))
	isNeither(t, drawn(r, 1001))
	isNeither(t, drawn(r, 1024))
	isNeither(t, drawn(r, 4000))
	isForm(t, make([]api.Pair, 1<<20))
}

// P22.1: what one Store answers, written out. The bits of red's hash begin by 0, those of a's and of blue's by 10 and by 11.
func TestOne(t *testing.T) {
	l := []api.Pair{number("red", 5), text("a", ""), text("blue", "sky")}
	for _, s := range both(t, l) {
		if got := s.List(); !slices.Equal(got, l) || s.Len() != 3 {
			t.Errorf("List: %s", told(got))
		}
		for _, p := range l {
			if got, ok := s.Get(p.Key); !ok || got != p.Val || s.Reads(p.Key) != 1 {
				t.Errorf("Get(%q): %s, %v", p.Key, told(got), ok)
			}
		}
		if got, ok := s.Get("b"); ok || got != (api.Raw{}) || s.Reads("b") != 1 {
			t.Errorf("Get of a key that is not there: %s, %v, Reads %d", told(got), ok, s.Reads("b"))
		}
		if got := s.Bytes(); string(got) != "\x06\x06red\x02\x0a\x02a\x04\x00\x08blue\x04\x06sky" {
			t.Errorf("Bytes: %x", got)
		}
	}
	// The bits of a's and blue's begin by 1 alike, so those of b's, which is 0, lead to none.
	for _, s := range both(t, l[1:]) {
		if got, ok := s.Get("b"); ok || got != (api.Raw{}) || s.Reads("b") != 0 {
			t.Errorf("Get of a key whose bits lead to none: %s, %v, Reads %d", told(got), ok, s.Reads("b"))
		}
	}
}

// P22.1: values of each kind, of each length of key.
func TestKinds(t *testing.T) {
	for n := 1; n <= 16; n++ {
		for _, k := range []string{strings.Repeat("k", n), strings.Repeat("\x00", n), strings.Repeat("\xff", n)} {
			for _, p := range kinds(k) {
				both(t, []api.Pair{p})
			}
		}
	}
}

// P22.1: keys of one hash are told apart, and all of them are counted, of a key that is not there too.
func TestOneHash(t *testing.T) {
	keys := twins(12)
	for n := range 12 {
		var same []api.Pair
		for i, k := range keys[:n] {
			same = append(same, number(k, int64(i)))
		}
		// Ahead of the hash stand others, and behind it.
		for _, more := range [][]api.Pair{nil, {number("e", 7)}, {number("d", 8)}, {number("e", 7), number("d", 8), number("red", 9)}} {
			for _, s := range both(t, arranged(append(slices.Clone(same), more...))) {
				for j, k := range keys {
					v, ok := s.Get(k)
					if ok != (j < n) || ok && v != number(k, int64(j)).Val || !ok && v != (api.Raw{}) {
						t.Errorf("%d of one hash: Get(%q): %s, %v", n, k, told(v), ok)
					}
					if got := s.Reads(k); n > 0 && got != n {
						t.Errorf("%d of one hash: Reads(%q): %d", n, k, got)
					}
				}
			}
		}
	}
}

// P22.1: all pairs of one hash: as many are looked at as there are.
func TestAllOfOneHash(t *testing.T) {
	keys := twins(1001)
	var l []api.Pair
	for i, k := range keys {
		l = append(l, number(k, int64(i)))
	}
	isNeither(t, arranged(l))
	l = arranged(l[:1000])
	for _, s := range made(t, l) {
		for _, k := range append(strangers(), keys...) {
			if got := s.Reads(k); got != 1000 {
				t.Fatalf("Reads(%q): %d", k, got)
			}
		}
		for i, k := range keys[:1000] {
			if v, ok := s.Get(k); !ok || v != number(k, int64(i)).Val {
				t.Fatalf("Get(%q): %s, %v", k, told(v), ok)
			}
		}
		if v, ok := s.Get(keys[1000]); ok || v != (api.Raw{}) {
			t.Errorf("Get of a key that is not there: %s, %v", told(v), ok)
		}
		if !slices.Equal(s.List(), l) || s.Len() != 1000 || !bytes.Equal(s.Bytes(), asRuled(l)) {
			t.Errorf("List: %s", told(s.List()))
		}
	}
}

// P22.1: Reads of keys that are not there: none, one, or all of a hash that is not theirs.
func TestStrangers(t *testing.T) {
	met := map[int]int{}
	for _, l := range lists() {
		for _, s := range made(t, l) {
			for i := range 60 {
				k := fmt.Sprint("nobody", i)
				got := s.Reads(k)
				met[got]++
				if want := readsOf(l, k); got != want {
					t.Fatalf("Reads(%q) of %d: %d, not %d", k, len(l), got, want)
				}
				if v, ok := s.Get(k); ok || v != (api.Raw{}) {
					t.Fatalf("Get(%q) of %d: %s, %v", k, len(l), told(v), ok)
				}
			}
		}
	}
	if met[0] < 100 || met[1] < 100 || len(met) < 4 {
		t.Errorf("the keys are poor: %v", met)
	}
}

// P22.1: a tree of one hash leads every key to it.
func TestOneLeads(t *testing.T) {
	for _, s := range both(t, []api.Pair{number("red", 5)}) {
		for _, k := range strangers() {
			if v, ok := s.Get(k); ok || v != (api.Raw{}) || s.Reads(k) != 1 {
				t.Errorf("Get(%.40q): %s, %v, Reads %d", k, told(v), ok, s.Reads(k))
			}
		}
	}
}

// P22.1: pairs out of order: ErrForm, ErrCorrupt.
func TestOutOfOrder(t *testing.T) {
	for _, l := range lists() {
		for i := 1; i < len(l); i++ {
			x := slices.Clone(l)
			x[i-1], x[i] = x[i], x[i-1]
			isNeither(t, x)
			x = slices.Clone(l)
			x[0], x[i] = x[i], x[0]
			isNeither(t, x)
		}
		if len(l) > 1 {
			x := slices.Clone(l)
			slices.Reverse(x)
			isNeither(t, x)
		}
	}
	// By their keys these stand in order, by their hashes not.
	isNeither(t, []api.Pair{number("a", 1), number("blue", 1), number("red", 1)})
	// By their hashes these do, by their keys not.
	isNeither(t, []api.Pair{number("\x81", 1), number("\x80", 1)})
}

// P22.1: a key that stands twice: ErrForm, ErrCorrupt.
func TestTwice(t *testing.T) {
	for _, l := range lists() {
		for i, p := range l {
			isNeither(t, slices.Insert(slices.Clone(l), i, p))
			isNeither(t, slices.Insert(slices.Clone(l), i, number(p.Key, 77)))
			isNeither(t, slices.Insert(slices.Clone(l), i+1, text(p.Key, "77")))
			isNeither(t, append(slices.Clone(l), p))
		}
	}
}

// P22.1: pairs that may not be, at each place: ErrForm, ErrCorrupt.
func TestBad(t *testing.T) {
	for _, p := range bad("a") {
		isForm(t, []api.Pair{p})
	}
	for _, l := range lists()[:12] {
		for i, p := range l {
			for _, b := range bad(p.Key) {
				x := slices.Clone(l)
				x[i] = b
				isForm(t, x)
			}
		}
	}
	for _, p := range []api.Pair{
		text("a", strings.Repeat("x", 25)), text("a", "\xff"), text("a", "\xed\xa0\x80"), text("a", strings.Repeat("x", 1<<16+1)),
		number("", 0), number(strings.Repeat("k", 17), 0), number(strings.Repeat("k", 1<<16+1), 0), {Key: "a", Val: api.Raw{Kind: 3}}, {Key: "a", Val: api.Raw{Kind: -1}},
	} {
		isCorrupt(t, asRuled([]api.Pair{p}))
	}
}

// P22.1: none is gone: bytes of a record that is: ErrCorrupt.
func TestGone(t *testing.T) {
	isCorrupt(t, []byte("\x02\x02a\x00"))
	for _, l := range lists()[:20] {
		for i, p := range l {
			b := append(bytesOf(int64(len(l)), l[:i]), addText(nil, p.Key)...)
			b = append(b, 0)
			isCorrupt(t, append(b, bytesOf(0, l[i+1:])[1:]...))
		}
	}
}

// P22.1: bytes that say another number of pairs, or say it in more bytes than it needs.
func TestCounts(t *testing.T) {
	for _, l := range lists() {
		for _, n := range []int64{0, 1, 2, 3, 63, 64, 999, 1000, 1001, 1 << 20, 1 << 40, math.MaxInt64, -1, -1000, math.MinInt64, int64(len(l)) + 1, int64(len(l)) - 1, int64(-len(l))} {
			if n != int64(len(l)) {
				isCorrupt(t, bytesOf(n, l))
			}
		}
		if len(l) < 64 {
			isCorrupt(t, append([]byte{byte(0x80 + 2*len(l)), 0}, asRuled(l)[1:]...))
		}
	}
}

// P22.1: bytes that are cut off, more bytes, and such as are none at all.
func TestCutOff(t *testing.T) {
	for _, l := range lists() {
		b := asRuled(l)
		for n := range b {
			isCorrupt(t, b[:n])
			isAsRuled(t, b[n+1:])
		}
		for c := range 256 {
			isCorrupt(t, append(bytes.Clone(b), byte(c)))
		}
		isCorrupt(t, append(bytes.Clone(b), b...))
	}
	for _, b := range [][]byte{nil, {}, {0x80}, {0, 0}, {0xff, 0xff, 0xff, 0xff}, make([]byte, 1<<20), bytes.Repeat([]byte{0xff}, 1<<20), bytes.Repeat([]byte{2}, 1<<20)} {
		isCorrupt(t, b)
	}
}

// P22.1: bytes of which one is another one: Open takes just those of pairs that may be, and as these.
func TestOtherBytes(t *testing.T) {
	taken, refused := 0, 0
	for i, l := range lists()[:24] {
		whole := asRuled(l)
		for at := range whole {
			for c := range 256 {
				// Of long bytes a few of the other ones do.
				if i > 4 && c%23 != at%23 {
					continue
				}
				b := bytes.Clone(whole)
				b[at] = byte(c)
				if isAsRuled(t, b) {
					taken++
				} else {
					refused++
				}
			}
		}
	}
	if taken < 1000 || refused < 1000 {
		t.Errorf("the bytes are poor: %d, %d", taken, refused)
	}
}

// P22.1: long runs of lists.
func TestDrawn(t *testing.T) {
	r := rand.New(rand.NewSource(3))
	for range 500 {
		both(t, drawn(r, r.Intn(30)))
	}
}

// P22.1, P0.4: no pairs are a Store too, of one byte.
func TestEmpty(t *testing.T) {
	for _, l := range [][]api.Pair{nil, {}} {
		for _, s := range both(t, l) {
			if s.Len() != 0 || len(s.List()) != 0 || string(s.Bytes()) != "\x00" || s.Reads("a") != 0 {
				t.Errorf("List: %s, Bytes: %x", told(s.List()), s.Bytes())
			}
		}
	}
}

// P22.1: a nil *Store.
func TestNil(t *testing.T) {
	var s *Store
	for _, k := range strangers() {
		if v, ok := s.Get(k); ok || v != (api.Raw{}) || s.Reads(k) != 0 {
			t.Errorf("Get(%.40q): %s, %v, Reads %d", k, told(v), ok, s.Reads(k))
		}
	}
	if len(s.List()) != 0 || len(s.Bytes()) != 0 || s.Len() != 0 {
		t.Errorf("List: %s, Bytes: %x, Len: %d", told(s.List()), s.Bytes(), s.Len())
	}
}

// P0.1: one that no New made does not panic.
func TestZero(t *testing.T) {
	isOf(t, &Store{}, nil)
}

// P0.3: bytes that are handed in are not changed, their spare room neither, and nothing of them is kept.
func TestBytesStay(t *testing.T) {
	for n, l := range lists() {
		all := append(asRuled(l), "....."...)
		was := bytes.Clone(all)
		s, err := Open(all[:len(all)-5])
		isCorrupt(t, all[:len(all)-4])
		isCorrupt(t, all[:len(all)-6])
		if err != api.OK || !bytes.Equal(all, was) {
			t.Fatalf("%d: %v, %x", n, err, all)
		}
		for i := range all {
			all[i] = '!'
		}
		isOf(t, s, l)
	}
}

// P0.3: pairs that are handed in are not changed, their spare room neither, and nothing of them is kept.
func TestPairsStay(t *testing.T) {
	for n, l := range lists() {
		all := append(slices.Clone(l), number("spare", 1), number("room", 2))
		was := slices.Clone(all)
		s, err := New(all[:len(l)])
		isForm(t, append(all[:len(l)], api.Pair{}))
		all[len(l)] = was[len(l)]
		if err != api.OK || !slices.Equal(all, was) {
			t.Fatalf("%d: %v, %s", n, err, told(all))
		}
		for i := range all {
			all[i] = number("!", 1)
		}
		isOf(t, s, l)
	}
}

// P0.3: nothing of the texts of the pairs that are handed in is kept.
func TestTextsStay(t *testing.T) {
	k, v := []byte("red"), []byte("value")
	s, err := New([]api.Pair{text(unsafe.String(&k[0], len(k)), unsafe.String(&v[0], len(v))), number("blue", 1)})
	copy(k, "xxx")
	copy(v, "xxxxx")
	if err != api.OK {
		t.Fatal(err)
	}
	isOf(t, s, []api.Pair{text("red", "value"), number("blue", 1)})
}

// P0.3: answers are new memory, spare room too: whoever writes into one changes no other one, and not the Store.
func TestAnswersAreNew(t *testing.T) {
	for n, x := range lists() {
		for _, s := range made(t, x) {
			b, c := s.Bytes(), s.Bytes()
			kept := bytes.Clone(c[:cap(c)])
			for i := range b[:cap(b)] {
				b[:cap(b)][i] = '!'
			}
			if !bytes.Equal(c[:cap(c)], kept) {
				t.Errorf("%d: two answers of Bytes share memory", n)
			}
			l, m := s.List(), s.List()
			rest := slices.Clone(m[:cap(m)])
			for i := range l[:cap(l)] {
				l[:cap(l)][i] = number("!", 1)
			}
			if !slices.Equal(m[:cap(m)], rest) {
				t.Errorf("%d: two answers of List share memory", n)
			}
			isOf(t, s, x)
		}
	}
}

// P0.3: the texts of what is answered are new memory, too.
func TestTextsAreNew(t *testing.T) {
	l := drawn(rand.New(rand.NewSource(4)), 60)
	seen := map[*byte]bool{}
	fresh := func(s string) {
		// Texts of one byte the language itself makes from one memory.
		if len(s) < 2 {
			return
		}
		if seen[unsafe.StringData(s)] {
			t.Fatalf("%q is told twice from one memory", s)
		}
		seen[unsafe.StringData(s)] = true
	}
	for _, p := range l {
		seen[unsafe.StringData(p.Key)] = true
		seen[unsafe.StringData(p.Val.S)] = true
	}
	for _, s := range made(t, l) {
		for _, p := range s.pairs {
			fresh(p.Key)
			fresh(p.Val.S)
		}
		for range 2 {
			for _, p := range s.List() {
				fresh(p.Key)
				fresh(p.Val.S)
			}
			for _, p := range l {
				v, _ := s.Get(p.Key)
				fresh(v.S)
			}
		}
	}
}

// P0.5: each one is by itself, and stays as it is behind all calls, failed ones too.
func TestApart(t *testing.T) {
	all := lists()
	var l []*Store
	for _, x := range all {
		l = append(l, both(t, x)...)
	}
	isForm(t, []api.Pair{{}})
	isCorrupt(t, []byte("\x02\x00"))
	for range 2 {
		for i, s := range l {
			isOf(t, s, all[i/2])
		}
	}
}
