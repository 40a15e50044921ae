package trie

import (
	"fmt"
	"math"
	"slices"
	"strconv"
	"strings"
	"testing"

	"loess/bits"
)

// A text of the runes 0 and 1 is what the tests hold bits and hashes against: each call by the promise's own words, a rune at a time.

// digits answers the 64 bits of h.
func digits(h uint64) string {
	return fmt.Sprintf("%064b", h)
}

// gammaAsRuled answers the bits of x (from 1).
func gammaAsRuled(x uint64) string {
	s := strconv.FormatUint(x, 2)
	return strings.Repeat("0", len(s)-1) + s
}

// treeAsRuled answers the tree of hashes, all with the same first d bits.
func treeAsRuled(l []string, d int) string {
	if len(l) < 2 {
		return ""
	}
	var those, others []string
	for _, h := range l {
		if h[d] == '0' {
			those = append(those, h)
		} else {
			others = append(others, h)
		}
	}
	return gammaAsRuled(uint64(len(those))+1) + treeAsRuled(those, d+1) + treeAsRuled(others, d+1)
}

// reading is bits that are read as a tree, from the first one on.
type reading struct {
	rest string
	// parts holds the first bits of each part of just one, in the order in which they are met.
	parts []string
}

// number reads one number.
func (r *reading) number() (uint64, bool) {
	k := len(r.rest) - len(strings.TrimLeft(r.rest, "0"))
	if k > 63 || len(r.rest) < 2*k+1 {
		return 0, false
	}
	x, err := strconv.ParseUint(r.rest[k:2*k+1], 2, 64)
	r.rest = r.rest[2*k+1:]
	return x, err == nil
}

// tree reads the tree of n whose first bits are these.
func (r *reading) tree(n int, first string) bool {
	if n == 1 {
		r.parts = append(r.parts, first)
	}
	if n < 2 {
		return true
	}
	if len(first) == 64 {
		return false
	}
	x, ok := r.number()
	if !ok || x > uint64(n)+1 {
		return false
	}
	those := int(x) - 1
	return r.tree(those, first+"0") && r.tree(n-those, first+"1")
}

// readAsRuled reads s as a tree of n: the parts of just one that stand ahead of a fault, and whether it is just such a tree.
func readAsRuled(s string, n int) ([]string, bool) {
	if n < 0 || n > 4096 {
		return nil, false
	}
	r := &reading{rest: s}
	ok := r.tree(n, "")
	return r.parts, ok && r.rest == ""
}

// rankAsRuled answers which of the parts h leads to.
func rankAsRuled(parts []string, h string) (int, bool) {
	for i, first := range parts {
		if strings.HasPrefix(h, first) {
			return i, true
		}
	}
	return 0, false
}

// of answers the bits of s.
func of(s string) *bits.Bits {
	b := &bits.Bits{}
	for _, r := range s {
		b.Put(r == '1')
	}
	return b
}

// text answers the bits of b.
func text(b *bits.Bits) string {
	var s strings.Builder
	for i := range b.Len() {
		if b.At(i) {
			s.WriteByte('1')
		} else {
			s.WriteByte('0')
		}
	}
	return s.String()
}

// random answers n numbers, the same ones for a seed (from 1).
func random(seed uint64, n int) []uint64 {
	x := seed * 0x9e3779b97f4a7c15
	var l []uint64
	for range n {
		x ^= x << 13
		x ^= x >> 7
		x ^= x << 17
		l = append(l, x)
	}
	return l
}

// rising answers the numbers of l, each once.
func rising(l []uint64) []uint64 {
	l = slices.Clone(l)
	slices.Sort(l)
	return slices.Compact(l)
}

// asked is a hash to ask for, and its bits.
type asked struct {
	h uint64
	s string
}

// ask answers the hashes to ask for.
func ask(l ...uint64) []asked {
	var a []asked
	for _, h := range l {
		a = append(a, asked{h, digits(h)})
	}
	return a
}

// starts are hashes with all first bits of n bits, with noughts behind, and with ones.
func starts(n int) []asked {
	l := []uint64{0x5555555555555555, 0xaaaaaaaaaaaaaaaa, 0x0123456789abcdef, 0xfedcba9876543210}
	for x := range uint64(1) << n {
		l = append(l, x<<(64-n), (x+1)<<(64-n)-1)
	}
	return ask(l...)
}

// within answers the least and the greatest hash of each part, and those beside them.
func within(parts []string) []asked {
	var l []uint64
	for _, first := range parts {
		n := 64 - len(first)
		least, _ := strconv.ParseUint(first+strings.Repeat("0", n), 2, 64)
		most, _ := strconv.ParseUint(first+strings.Repeat("1", n), 2, 64)
		l = append(l, least, most, least-1, most+1)
	}
	return ask(l...)
}

// checkRead holds Rank and Check of b, whose bits are s, against the promise.
func checkRead(t *testing.T, b *bits.Bits, s string, n int, more []asked) {
	t.Helper()
	parts, whole := readAsRuled(s, n)
	if ok := Check(b, n); ok != whole {
		t.Fatalf("Check(%s, %d): %v", s, n, ok)
	}
	for _, l := range [][]asked{more, within(parts)} {
		for _, a := range l {
			want, wantOK := rankAsRuled(parts, a.s)
			if i, ok := Rank(b, n, a.h); i != want || ok != wantOK {
				t.Fatalf("Rank(%s, %d, %s): %d, %v, not %d, %v", s, n, a.s, i, ok, want, wantOK)
			}
		}
	}
}

// checkList holds Build of l, which rises, and what is read of it against the promise.
func checkList(t *testing.T, l []uint64, more []asked) {
	t.Helper()
	var hashes []string
	for _, h := range l {
		hashes = append(hashes, digits(h))
	}
	want := treeAsRuled(hashes, 0)
	b, ok := Build(l)
	if b == nil || !ok || text(b) != want {
		t.Fatalf("Build(%x): %s, %v, not %s", l, text(b), ok, want)
	}
	if !Check(b, len(l)) {
		t.Fatalf("Check of the tree of %x: false", l)
	}
	for i, h := range l {
		if place, ok := Rank(b, len(l), h); place != i || !ok {
			t.Fatalf("Rank of %x in the tree of %x: %d, %v, not %d", h, l, place, ok, i)
		}
	}
	checkRead(t, b, want, len(l), more)
}

// lists are some hashes that rise: few and more, far from each other and close by.
func lists() [][]uint64 {
	r := random(7, 25)
	var close, tail []uint64
	for i, x := range r[:14] {
		close = append(close, x>>61<<61|uint64(i)&3)
		tail = append(tail, 0xfedcba9876543000+x%300)
	}
	return [][]uint64{
		{0, 1 << 63},
		{0, 1},
		{math.MaxUint64 - 1, math.MaxUint64},
		{1 << 62, 1<<62 | 1<<61, 1 << 63},
		{0, 1, 2, 3, 4, 5, 6, 7},
		{5, 9, 1 << 20, 1 << 40, 1<<40 + 1, 1 << 63, math.MaxUint64},
		rising(r[:12]),
		rising(r),
		rising(close),
		rising(tail),
	}
}

// P21.1: known trees.
func TestKnown(t *testing.T) {
	for _, c := range []struct {
		l    []uint64
		want string
	}{
		{nil, ""},
		{[]uint64{}, ""},
		{[]uint64{0}, ""},
		{[]uint64{math.MaxUint64}, ""},
		{[]uint64{0, 1 << 63}, "010"},
		{[]uint64{math.MaxInt64, 1 << 63}, "010"},
		{[]uint64{0, 1 << 62}, "011" + "010"},
		{[]uint64{1 << 63, 3 << 62}, "1" + "010"},
		{[]uint64{0, 1 << 62, 1 << 63}, "011" + "010"},
		{[]uint64{0, 1 << 63, 3 << 62}, "010" + "010"},
		{[]uint64{0, 1 << 62, 1 << 63, 3 << 62}, "011" + "010" + "010"},
		{[]uint64{0, 1 << 61, 1 << 62, 3 << 61}, "00101" + "011" + "010" + "010"},
		{[]uint64{1, 2, 3, 1 << 62, 1 << 63}, "00101" + "00100" + strings.Repeat("00100", 60) + "010" + "010"},
		{[]uint64{0, 1}, strings.Repeat("011", 63) + "010"},
		{[]uint64{math.MaxUint64 - 1, math.MaxUint64}, strings.Repeat("1", 63) + "010"},
	} {
		if b, ok := Build(c.l); b == nil || text(b) != c.want || !ok {
			t.Errorf("Build(%x): %s, %v, not %s", c.l, text(b), ok, c.want)
		}
		checkRead(t, of(c.want), c.want, len(c.l), starts(4))
	}
}

// P21.1: all sets of the numbers of four bits as first bits.
func TestAllSets(t *testing.T) {
	more := starts(3)
	for set := range 1 << 16 {
		var l []uint64
		for x := range uint64(16) {
			if set>>x&1 == 1 {
				l = append(l, x<<60|x*0x0123456789abcd)
			}
		}
		checkList(t, l, more)
	}
}

// P21.1: all sets of the numbers of three bits, wherever among the bits, with noughts, ones or both beside them.
func TestAllPlaces(t *testing.T) {
	more := starts(2)
	for shift := range 62 {
		for _, beside := range []uint64{0, math.MaxUint64, 0xc3a5965a3c0ff0e1} {
			for set := range 1 << 8 {
				var l []uint64
				for x := range uint64(8) {
					if set>>x&1 == 1 {
						l = append(l, beside&^(7<<shift)|x<<shift)
					}
				}
				checkList(t, l, more)
			}
		}
	}
}

// P21.1: long lists, up to the longest.
func TestLongLists(t *testing.T) {
	for i, n := range []int{2, 3, 10, 100, 1000, 4095, 4096} {
		for _, shift := range []int{0, 20, 44, 51} {
			var l []uint64
			for _, x := range random(uint64(i+1), n) {
				l = append(l, x>>shift)
			}
			l = rising(l)
			b, ok := Build(l)
			if !ok || !Check(b, len(l)) {
				t.Fatalf("the tree of %d hashes: %v", len(l), ok)
			}
			for place := 0; place < len(l); place += 1 + len(l)/300 {
				if got, ok := Rank(b, len(l), l[place]); got != place || !ok {
					t.Fatalf("Rank of hash %d of %d: %d, %v", place, len(l), got, ok)
				}
			}
			if n <= 1000 {
				checkList(t, l, starts(3))
			}
		}
	}
}

// P21.1, P0.1: 4,096 hashes in a row, and as many in pairs that differ in the last bit alone.
func TestFullLists(t *testing.T) {
	var row, top, pairs []uint64
	for x := range uint64(4096) {
		row = append(row, x)
		top = append(top, x<<52|0x12345)
		pairs = append(pairs, x>>1<<53|0xabcde0|x&1)
	}
	for _, l := range [][]uint64{row, top, pairs} {
		b, ok := Build(l)
		if !ok || !Check(b, 4096) || Check(b, 4095) {
			t.Fatalf("the tree of %x ..: %v", l[:3], ok)
		}
		for _, place := range []int{0, 1, 2, 2047, 2048, 3000, 4094, 4095} {
			if got, ok := Rank(b, 4096, l[place]); got != place || !ok {
				t.Errorf("Rank of hash %d: %d, %v", place, got, ok)
			}
		}
	}
}

// P21.1: false, nil of more than 4,096, whatever they are.
func TestBuildOfTooMany(t *testing.T) {
	for _, n := range []int{4097, 4098, 5000, 1 << 20} {
		for _, step := range []uint64{0, 1, 1 << 40} {
			l := make([]uint64, n)
			for i := range l {
				l[i] = uint64(i) * step
			}
			if b, ok := Build(l); b != nil || ok {
				t.Errorf("Build of %d by %d: %s, %v", n, step, text(b), ok)
			}
		}
	}
}

// P21.1: false, nil of hashes that do not rise, wherever they do not.
func TestBuildOfNotRising(t *testing.T) {
	for _, l := range [][]uint64{{0, 0}, {1, 0}, {math.MaxUint64, math.MaxUint64}, {math.MaxUint64, 0}, {1 << 63, math.MaxInt64}, {0, 1, 1}, {0, 0, 1}, {2, 3, 1}, {3, 1, 2}, {1, 3, 2}} {
		if b, ok := Build(l); b != nil || ok {
			t.Errorf("Build(%x): %s, %v", l, text(b), ok)
		}
	}
	for _, good := range lists() {
		for i := 1; i < len(good); i++ {
			same, swapped, below := slices.Clone(good), slices.Clone(good), slices.Clone(good)
			same[i] = same[i-1]
			swapped[i], swapped[i-1] = swapped[i-1], swapped[i]
			below[i] = 0
			for _, l := range [][]uint64{same, swapped, below} {
				if b, ok := Build(l); b != nil || ok {
					t.Fatalf("Build(%x): %s, %v", l, text(b), ok)
				}
			}
		}
	}
	long := make([]uint64, 4096)
	for i := range long {
		long[i] = uint64(i)
	}
	for _, at := range []int{1, 2048, 4095} {
		l := slices.Clone(long)
		l[at]--
		if b, ok := Build(l); b != nil || ok {
			t.Errorf("Build of 4,096, of which the one at %d does not rise: %v", at, ok)
		}
	}
}

// P21.1: of none every hash leads to none, of one every hash leads to it, whatever b is; just no bits are such a tree.
func TestOfNoneAndOne(t *testing.T) {
	for _, b := range []*bits.Bits{nil, {}, of("0"), of("1"), of("010"), of(strings.Repeat("0", 200))} {
		for _, a := range starts(3) {
			if i, ok := Rank(b, 0, a.h); i != 0 || ok {
				t.Errorf("Rank(%s, 0, %x): %d, %v", text(b), a.h, i, ok)
			}
			if i, ok := Rank(b, 1, a.h); i != 0 || !ok {
				t.Errorf("Rank(%s, 1, %x): %d, %v", text(b), a.h, i, ok)
			}
		}
		for n := range 2 {
			if ok := Check(b, n); ok != (b.Len() == 0) {
				t.Errorf("Check(%s, %d): %v", text(b), n, ok)
			}
		}
	}
}

// P21.1, P0.1, P0.2: of a count that is not 0 to 4,096 nothing is a tree.
func TestWrongCount(t *testing.T) {
	// These are trees of 4,097 and of 4,100, but for the end that the promise sets.
	var long []string
	for x := range uint64(4100) {
		long = append(long, digits(x<<50))
	}
	more := treeAsRuled(long[:4097], 0)
	most := treeAsRuled(long, 0)
	if !Check(of(treeAsRuled(long[:4096], 0)), 4096) {
		t.Error("Check of a tree of 4,096: false")
	}
	for _, s := range []string{"", "0", "1", "010", "1010", strings.Repeat("1", 70), more, most} {
		b := of(s)
		for _, n := range []int{math.MinInt, math.MinInt + 1, -1 << 32, -4096, -2, -1, 4097, 4100, 1 << 32, 1<<32 + 1, math.MaxInt - 1, math.MaxInt} {
			if Check(b, n) {
				t.Errorf("Check of %d bits, %d: true", len(s), n)
			}
			for _, a := range starts(3) {
				if i, ok := Rank(b, n, a.h); i != 0 || ok {
					t.Errorf("Rank of %d bits, %d, %x: %d, %v", len(s), n, a.h, i, ok)
				}
			}
		}
	}
}

// P21.1: all rows of up to 12 bits, read as trees of few.
func TestAllShortRows(t *testing.T) {
	more := starts(4)
	for long := range 13 {
		for x := range uint64(1) << long {
			b := &bits.Bits{}
			b.PutNum(x, long)
			s := text(b)
			for n := -1; n <= 6; n++ {
				checkRead(t, b, s, n, more)
			}
			if text(b) != s {
				t.Fatalf("by being asked %s has become %s", s, text(b))
			}
		}
	}
}

// P21.1: a tree is cut off wherever, or has more behind it.
func TestCutOffAndMore(t *testing.T) {
	for _, l := range lists() {
		b, _ := Build(l)
		s := text(b)
		more := ask(l...)
		for end := range len(s) {
			cut := of(s[:end])
			if Check(cut, len(l)) {
				t.Fatalf("Check(%s, %d): true", s[:end], len(l))
			}
			checkRead(t, cut, s[:end], len(l), more)
		}
		for _, behind := range []string{"0", "1", "010", strings.Repeat("0", 70), strings.Repeat("1", 70), s} {
			longer := of(s + behind)
			if Check(longer, len(l)) {
				t.Fatalf("Check(%s%s, %d): true", s, behind, len(l))
			}
			for i, h := range l {
				if place, ok := Rank(longer, len(l), h); place != i || !ok {
					t.Fatalf("Rank of %x in %s%s: %d, %v, not %d", h, s, behind, place, ok, i)
				}
			}
		}
	}
}

// P21.1: a tree of which one bit is another one, read as one of as many, and of more or fewer.
func TestOneBitTurned(t *testing.T) {
	for _, l := range lists() {
		b, _ := Build(l)
		s := text(b)
		more := ask(l...)
		for i := range len(s) {
			turned := []byte(s)
			turned[i] ^= '0' ^ '1'
			for n := len(l) - 1; n <= len(l)+1; n++ {
				checkRead(t, of(string(turned)), string(turned), n, more)
			}
		}
		for n := -1; n <= len(l)+70; n++ {
			checkRead(t, b, s, n, more)
		}
	}
}

// P21.1: more have a 0 than there are, at the first bit or further on.
func TestMoreThanThereAre(t *testing.T) {
	for _, n := range []int{2, 3, 4, 100, 4095, 4096} {
		for _, ahead := range []string{"", "1", gammaAsRuled(uint64(n) + 1), "11" + gammaAsRuled(uint64(n)+1)} {
			// As many, and all behind them at one bit or the other one each.
			all := ahead + gammaAsRuled(uint64(n)+1)
			checkRead(t, of(all), all, n, starts(3))
			for _, x := range []uint64{uint64(n) + 2, uint64(n) + 3, uint64(2*n) + 1, 1 << 31, 1 << 32, 1<<32 + 1, 1<<32 + 2, 1<<63 - 1, 1 << 63, 1<<63 + 1, 1<<63 + 2, math.MaxUint64} {
				for _, behind := range []string{"", strings.Repeat("1", 200), strings.Repeat("010", 100)} {
					s := ahead + gammaAsRuled(x) + behind
					b := of(s)
					checkRead(t, b, s, n, starts(3))
					if i, ok := Rank(b, n, 0); i != 0 || ok || Check(b, n) {
						t.Fatalf("Rank(%s, %d, 0): %d, %v", s, n, i, ok)
					}
				}
			}
		}
	}
}

// P21.1: 64 noughts begin no number, so no tree.
func TestNoNumber(t *testing.T) {
	for _, ahead := range []string{"", "1", "011", "010"} {
		for _, noughts := range []int{63, 64, 65, 200} {
			s := ahead + strings.Repeat("0", noughts) + strings.Repeat("1", 200)
			for _, n := range []int{2, 3, 4096} {
				checkRead(t, of(s), s, n, starts(3))
				if Check(of(s), n) {
					t.Errorf("Check(%s, %d): true", s, n)
				}
			}
		}
	}
}

// P21.1: a part of more than one has no bit left.
func TestNoBitLeft(t *testing.T) {
	for forks := range 130 {
		for _, c := range []struct {
			fork string
			h    uint64
			n    int
		}{{"011", 0, 2}, {"00100", 0, 3}, {"1", math.MaxUint64, 2}, {"1", math.MaxUint64, 3}} {
			// All have the same first bits, as many as there are forks; then one has a 0, and of three the other two part at one bit more.
			s := strings.Repeat(c.fork, forks) + strings.Repeat("010", c.n-1)
			b := of(s)
			checkRead(t, b, s, c.n, starts(3))
			h := c.h
			if forks < 64 {
				h &^= 1 << (63 - forks)
			}
			if i, ok := Rank(b, c.n, h); i != 0 || ok != (forks < 64) {
				t.Fatalf("Rank(%s, %d, %x): %d, %v", s, c.n, h, i, ok)
			}
			if ok := Check(b, c.n); ok != (forks+c.n-2 < 64) {
				t.Fatalf("Check(%s, %d): %v", s, c.n, ok)
			}
		}
	}
}

// P21.1: what a hash's bits lead over is looked at, what they do not lead over is not, nor what stands behind.
func TestAsFarAsTheBitsLead(t *testing.T) {
	const none = -1
	for _, c := range []struct {
		s    string
		n    int
		h    uint64
		want int
	}{
		// Two with a 0, which are one and one; of the others the tree is cut off, or has more with a 0 than there are, or has no number.
		{"011" + "010" + "0", 4, 0, 0},
		{"011" + "010" + "0", 4, 1 << 62, 1},
		{"011" + "010" + "0", 4, 1 << 63, none},
		{"011" + "010" + "00100", 4, 1 << 62, 1},
		{"011" + "010" + "00100", 4, 1 << 63, none},
		{"011" + "010" + strings.Repeat("0", 100), 4, 1 << 62, 1},
		{"011" + "010" + strings.Repeat("0", 100), 4, 3 << 62, none},
		// The tree of those with a 0 is cut off: they are led to, or led over.
		{"011" + "01", 3, 0, none},
		{"011" + "01", 3, 1 << 63, none},
		{"011" + "01", 4, 1 << 63, none},
		{"011" + "01", 2, 1 << 63, none},
		// More of those with a 0 have a 0 next than there are.
		{"011" + "00100" + "010", 4, 1 << 63, none},
		{"011" + "00100", 3, 1 << 63, none},
		// One with a 0 has no tree, so the others are led to at once.
		{"010" + "010", 3, 1 << 63, 1},
		{"010" + "010", 3, 3 << 62, 2},
		{"010" + "0", 3, 0, 0},
		{"010" + "0", 3, 1 << 63, none},
		// None with a 0.
		{"1" + "010", 2, 0, none},
		{"1" + "0", 2, 0, none},
		{"1" + "010", 2, 3 << 62, 1},
		// What stands behind.
		{"010" + "111", 2, 0, 0},
		{"010" + "000", 2, 1 << 63, 1},
		{"010" + strings.Repeat("0", 100), 2, math.MaxUint64, 1},
		// Below a part whose tree is led over nothing has a bit left.
		{"011" + strings.Repeat("011", 63) + "010", 3, 1 << 63, none},
		{"011" + strings.Repeat("011", 62) + "010", 3, 1 << 63, 2},
		{"011" + strings.Repeat("1", 63) + "010", 3, 1 << 63, none},
		{"011" + strings.Repeat("1", 62) + "010", 3, 1 << 63, 2},
	} {
		i, ok := Rank(of(c.s), c.n, c.h)
		if ok != (c.want != none) || i != max(c.want, 0) {
			t.Errorf("Rank(%s, %d, %x): %d, %v, not %d", c.s, c.n, c.h, i, ok, c.want)
		}
		checkRead(t, of(c.s), c.s, c.n, starts(4))
	}
}

// P21.1, P0.1: nil bits are no bits.
func TestNil(t *testing.T) {
	for _, n := range []int{math.MinInt, -1, 0, 1, 2, 3, 4096, 4097, math.MaxInt} {
		for _, b := range []*bits.Bits{nil, {}} {
			checkRead(t, b, "", n, starts(3))
		}
	}
}

// P21.1, P0.1: any bits, read as trees of any counts.
func TestAnyBits(t *testing.T) {
	more := starts(3)
	for seed := range uint64(300) {
		var s strings.Builder
		for _, x := range random(seed+1, 30) {
			// Mostly ones, so that numbers are short and the reading goes far.
			s.WriteString(digits(x | x<<1 | x>>3&x)[:int(seed%64)+1])
		}
		b := of(s.String())
		for _, n := range []int{0, 1, 2, 3, 4, 5, 7, 10, 20, 50, 300, 4096} {
			checkRead(t, b, s.String(), n, more)
		}
	}
}

// P0.3: the list is not changed, its spare room neither, and not kept; nor are bits that are read changed.
func TestArgumentsStay(t *testing.T) {
	for _, l := range lists() {
		room := append(slices.Clone(l), 3, 2, 1)
		was := slices.Clone(room)
		given := room[:len(l)]
		b, _ := Build(given)
		want := text(b)
		if !slices.Equal(room, was) {
			t.Fatalf("by Build %x has become %x", was, room)
		}
		for i := range room {
			room[i] = 99
		}
		if text(b) != want || !Check(b, len(l)) {
			t.Fatalf("the tree of %x has become %s", l, text(b))
		}
		for i, h := range l {
			if place, ok := Rank(b, len(l), h); place != i || !ok {
				t.Fatalf("Rank of %x: %d, %v, not %d", h, place, ok, i)
			}
		}
		if text(b) != want {
			t.Fatalf("by being asked the tree has become %s", text(b))
		}
	}
}

// P0.3, P0.5: a tree is new memory: who writes into it changes no other answer, and each call goes by what b is then.
func TestAnswersStandApart(t *testing.T) {
	for _, l := range append(lists(), nil, []uint64{7}) {
		first, _ := Build(l)
		want := text(first)
		for range 70 {
			first.Put(true)
		}
		second, ok := Build(l)
		if text(second) != want || !ok || !Check(second, len(l)) {
			t.Fatalf("the second tree of %x: %s, not %s", l, text(second), want)
		}
		if text(first) != want+strings.Repeat("1", 70) || Check(first, len(l)) {
			t.Fatalf("the first tree of %x: %s", l, text(first))
		}
		second.Put(false)
		if text(first) != want+strings.Repeat("1", 70) {
			t.Fatalf("by a bit of the second tree the first one has become %s", text(first))
		}
	}
	b := of("01")
	for range 2 {
		if i, ok := Rank(b, 2, 1<<63); i != 0 || ok || Check(b, 2) {
			t.Errorf("Rank of a tree that is cut off: %d, %v", i, ok)
		}
	}
	b.Put(false)
	if i, ok := Rank(b, 2, 1<<63); i != 1 || !ok || !Check(b, 2) {
		t.Errorf("Rank of the tree that is whole now: %d, %v", i, ok)
	}
}
