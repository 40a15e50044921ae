package rank

import (
	"bytes"
	"math"
	"strings"
	"testing"

	"loess/bits"
)

// A text of the runes 0 and 1 is what the tests hold a Rank against: each call by the promise's own words, a rune at a time.

// onesAsRuled answers how many of the first i of s are set.
func onesAsRuled(s string, i int) int {
	return strings.Count(s[:max(0, min(i, len(s)))], "1")
}

// placeAsRuled answers where the n-th one of s that is set stands.
func placeAsRuled(s string, n int) int {
	for i, r := range s {
		if r == '1' {
			if n == 0 {
				return i
			}
			n--
		}
	}
	return -1
}

// of answers the bits of s.
func of(s string) *bits.Bits {
	b := &bits.Bits{}
	for _, r := range s {
		b.Put(r == '1')
	}
	return b
}

// draw answers numbers by a short rule, the same ones in each run.
func draw(x *uint64) uint64 {
	*x ^= *x << 13
	*x ^= *x >> 7
	*x ^= *x << 17
	return *x
}

// mixed answers n bits, of which about one of each few is set.
func mixed(n, few int) string {
	x := uint64(88172645463325252)
	s := make([]byte, n)
	for i := range s {
		s[i] = '0'
		if draw(&x)>>20%uint64(few) == 0 {
			s[i] = '1'
		}
	}
	return string(s)
}

// farOff are counts and places beyond all bits, with sums and products that would wrap.
func farOff() []int {
	return []int{math.MinInt, math.MinInt + 1, math.MinInt + 63, math.MinInt + 64, math.MinInt + 65, -1 << 40, -1 << 32, -1 << 31, -129, -128, -65, -64, -63, -8, -2, -1, 1 << 31, 1 << 32, 1 << 40, 1<<58 - 1, 1 << 58, 1<<61 - 1, 1 << 62, math.MaxInt - 65, math.MaxInt - 64, math.MaxInt - 63, math.MaxInt - 1, math.MaxInt}
}

// lengths are those at which a byte and 64 bits are full, with their neighbours.
func lengths() []int {
	return []int{0, 1, 2, 7, 8, 9, 62, 63, 64, 65, 66, 71, 72, 73, 126, 127, 128, 129, 130, 191, 192, 193, 255, 256, 257, 320, 511, 512, 513}
}

// agree holds all that r tells against s.
func agree(t *testing.T, r *Rank, s string) {
	t.Helper()
	if got := r.Len(); got != len(s) {
		t.Fatalf("Len: %d, not %d", got, len(s))
	}
	for i := -2; i <= len(s)+2; i++ {
		checkOnes(t, r, s, i)
	}
	for n := -2; n <= onesAsRuled(s, len(s))+2; n++ {
		checkPlace(t, r, s, n)
	}
	for _, x := range append(farOff(), len(s)+63, len(s)+64, len(s)+65) {
		checkOnes(t, r, s, x)
		checkPlace(t, r, s, x)
	}
}

func checkOnes(t *testing.T, r *Rank, s string, i int) {
	t.Helper()
	if got, want := r.Ones(i), onesAsRuled(s, i); got != want {
		t.Fatalf("Ones(%d) of %s: %d, not %d", i, s, got, want)
	}
}

func checkPlace(t *testing.T, r *Rank, s string, n int) {
	t.Helper()
	if got, want := r.Place(n), placeAsRuled(s, n); got != want {
		t.Fatalf("Place(%d) of %s: %d, not %d", n, s, got, want)
	}
}

// P8.1: known bits.
func TestKnown(t *testing.T) {
	r := New(of("0001110110"))
	if n := r.Len(); n != 10 {
		t.Errorf("Len: %d", n)
	}
	for i, want := range []int{0, 0, 0, 0, 1, 2, 3, 3, 4, 5, 5} {
		if got := r.Ones(i); got != want {
			t.Errorf("Ones(%d): %d, not %d", i, got, want)
		}
	}
	for n, want := range []int{3, 4, 5, 7, 8, -1, -1} {
		if got := r.Place(n); got != want {
			t.Errorf("Place(%d): %d, not %d", n, got, want)
		}
	}
}

// P8.1: below 0 none, above Len all; no place below the first one and beyond the last.
func TestEdges(t *testing.T) {
	r := New(of("1" + strings.Repeat("0", 70) + "1"))
	for _, i := range []int{math.MinInt, -64, -1, 0} {
		if got := r.Ones(i); got != 0 {
			t.Errorf("Ones(%d): %d", i, got)
		}
	}
	for _, i := range []int{1, 2, 63, 64, 65, 71} {
		if got := r.Ones(i); got != 1 {
			t.Errorf("Ones(%d): %d", i, got)
		}
	}
	for _, i := range []int{72, 73, 127, 128, 129, 1 << 40, math.MaxInt} {
		if got := r.Ones(i); got != 2 {
			t.Errorf("Ones(%d): %d", i, got)
		}
	}
	for n, want := range map[int]int{math.MinInt: -1, -1: -1, 0: 0, 1: 71, 2: -1, 3: -1, 64: -1, math.MaxInt: -1} {
		if got := r.Place(n); got != want {
			t.Errorf("Place(%d): %d, not %d", n, got, want)
		}
	}
}

// P8.1: all rows of up to 12 bits.
func TestAllShortRows(t *testing.T) {
	for n := range 13 {
		for x := range uint64(1) << n {
			b := &bits.Bits{}
			b.PutNum(x, n)
			s := make([]byte, n)
			for i := range s {
				s[i] = '0' + byte(x>>(n-1-i)&1)
			}
			agree(t, New(b), string(s))
		}
	}
}

// P8.1: rows of all lengths about the full ones, with bits of one kind, of both, with few and with many that are set.
func TestLengths(t *testing.T) {
	for _, n := range lengths() {
		for _, s := range []string{strings.Repeat("0", n), strings.Repeat("1", n), strings.Repeat("01", n)[:n], mixed(n, 2), mixed(n, 3), mixed(n, 40), mixed(n, 150)} {
			agree(t, New(of(s)), s)
		}
	}
}

// P8.1: one bit that is set, and one that is not, wherever it stands.
func TestOneAlone(t *testing.T) {
	for _, n := range []int{1, 8, 63, 64, 65, 127, 128, 129, 200} {
		for at := range n {
			s := strings.Repeat("0", at) + "1" + strings.Repeat("0", n-at-1)
			agree(t, New(of(s)), s)
			s = strings.Repeat("1", at) + "0" + strings.Repeat("1", n-at-1)
			agree(t, New(of(s)), s)
		}
	}
}

// P8.1: those that are set stand far from one another, with many noughts ahead, between and behind.
func TestGaps(t *testing.T) {
	for _, ahead := range []int{0, 1, 63, 64, 65, 128, 300} {
		for _, between := range []int{0, 1, 62, 63, 64, 65, 127, 128, 200, 500} {
			for _, behind := range []int{0, 1, 63, 64, 65, 300} {
				s := strings.Repeat("0", ahead) + "1" + strings.Repeat("0", between) + "11" + strings.Repeat("0", between) + "1" + strings.Repeat("0", behind)
				agree(t, New(of(s)), s)
			}
		}
	}
}

// P8.1: Place and Ones undo each other.
func TestPlaceIsWhereOnesRises(t *testing.T) {
	s := mixed(5000, 5)
	r := New(of(s))
	for n := range r.Ones(len(s)) {
		at := r.Place(n)
		if r.Ones(at) != n || r.Ones(at+1) != n+1 {
			t.Fatalf("Place(%d): %d, where Ones is %d and then %d", n, at, r.Ones(at), r.Ones(at+1))
		}
	}
}

// P8.1: of bits.Of as of bits that were put.
func TestOfBytes(t *testing.T) {
	for _, n := range lengths() {
		s := mixed(n, 2)
		b, ok := bits.Of(of(s).Bytes(), n)
		if !ok {
			t.Fatalf("Of %d bits: false", n)
		}
		agree(t, New(b), s)
	}
}

// P8.1: a nil *Rank, one of nil, of none, and the zero one: 0, -1, 0.
func TestNone(t *testing.T) {
	for _, r := range []*Rank{nil, New(nil), New(&bits.Bits{}), {}} {
		for _, x := range append(farOff(), 0, 1, 2, 63, 64, 65) {
			if got := r.Ones(x); got != 0 {
				t.Errorf("Ones(%d): %d", x, got)
			}
			if got := r.Place(x); got != -1 {
				t.Errorf("Place(%d): %d", x, got)
			}
		}
		if got := r.Len(); got != 0 {
			t.Errorf("Len: %d", got)
		}
	}
}

// P8.1: of the bits as they were when it was made, whatever is put behind them then.
func TestAsTheyWere(t *testing.T) {
	for _, n := range lengths() {
		s := mixed(n, 2)
		b := of(s)
		first := New(b)
		b.Put(true)
		second := New(b)
		b.PutNum(math.MaxUint64, 64)
		b.PutNum(math.MaxUint64, 64)
		agree(t, first, s)
		agree(t, second, s+"1")
		agree(t, New(b), s+strings.Repeat("1", 129))
	}
}

// P0.3: the bits stay as they are, and can be put on.
func TestBitsStay(t *testing.T) {
	for _, n := range lengths() {
		s := mixed(n, 2)
		b, want := of(s), of(s)
		r := New(b)
		agree(t, r, s)
		if b.Len() != n || !bytes.Equal(b.Bytes(), want.Bytes()) {
			t.Fatalf("%d bits: %x has become %x", n, want.Bytes(), b.Bytes())
		}
		b.PutNum(0x1234, 14)
		want.PutNum(0x1234, 14)
		if b.Len() != n+14 || !bytes.Equal(b.Bytes(), want.Bytes()) {
			t.Fatalf("%d bits and 14: %x, not %x", n, b.Bytes(), want.Bytes())
		}
	}
}

// P0.5: what is asked of one changes neither its answers nor those of another.
func TestEachOnItsOwn(t *testing.T) {
	s, other := mixed(300, 2), mixed(200, 9)
	b := of(s)
	l := []*Rank{New(b), New(b), New(of(other))}
	for range 3 {
		agree(t, l[0], s)
		agree(t, l[2], other)
		agree(t, l[1], s)
	}
}

// P0.1: a long row ends, and all its calls are quick.
func TestLong(t *testing.T) {
	const many = 1 << 22
	b := &bits.Bits{}
	x := uint64(7)
	var places []int
	for at := 0; at < many; at += 32 {
		y := draw(&x) >> 20 & (1<<32 - 1)
		// So that many and few stand in turn, and long rows of none between them.
		if at>>10%3 == 1 {
			y &= y >> 1 & (y >> 2) & (y >> 3)
		} else if at>>10%3 == 2 {
			y = 0
		}
		b.PutNum(y, 32)
		for i := range 32 {
			if y>>(31-i)&1 == 1 {
				places = append(places, at+i)
			}
		}
	}
	r := New(b)
	if r.Len() != many || r.Ones(many) != len(places) || r.Place(len(places)) != -1 {
		t.Fatalf("Len %d, Ones %d, Place %d", r.Len(), r.Ones(many), r.Place(len(places)))
	}
	for n, at := range places {
		if r.Place(n) != at || r.Ones(at) != n || r.Ones(at+1) != n+1 {
			t.Fatalf("number %d: Place %d, Ones %d and %d, not %d", n, r.Place(n), r.Ones(at), r.Ones(at+1), at)
		}
	}
}
