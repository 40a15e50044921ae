package gamma

import (
	"math"
	"slices"
	"strconv"
	"strings"
	"testing"

	"loess/bits"
)

// A text of the runes 0 and 1 is what the tests hold bits against: each call by the promise's own words, a rune at a time.

// putAsRuled answers the bits of x (from 1).
func putAsRuled(x uint64) string {
	digits := strconv.FormatUint(x, 2)
	return strings.Repeat("0", len(digits)-1) + digits
}

// getAsRuled answers the number that begins at the bit at of s, and where it ends.
func getAsRuled(s string, at int) (uint64, int, bool) {
	if at < 0 || at > len(s) {
		return 0, at, false
	}
	k := 1
	for strings.HasPrefix(s[at+k-1:], "0") {
		k++
		if k > 64 {
			return 0, at, false
		}
	}
	if at+k-1+k > len(s) {
		return 0, at, false
	}
	x, _ := strconv.ParseUint(s[at+k-1:at+k-1+k], 2, 64)
	return x, at + k - 1 + k, true
}

// allAsRuled answers the n numbers from the bit at of s on, and where the last one ends.
func allAsRuled(s string, at, n int) ([]uint64, int, bool) {
	var l []uint64
	end := at
	for len(l) < n {
		x, next, ok := getAsRuled(s, end)
		if !ok {
			return nil, at, false
		}
		l, end = append(l, x), next
	}
	return l, end, n >= 0
}

// of answers the bits of s.
func of(s string) *bits.Bits {
	b := &bits.Bits{}
	for _, r := range s {
		b.Put(r == '1')
	}
	return b
}

// text answers the bits of b.
func text(b *bits.Bits) string {
	var s strings.Builder
	for i := range b.Len() {
		if b.At(i) {
			s.WriteByte('1')
		} else {
			s.WriteByte('0')
		}
	}
	return s.String()
}

// edges are the small numbers, and those at which the count of digits changes, with their neighbours.
func edges() []uint64 {
	l := []uint64{math.MaxUint64 - 1, math.MaxUint64, 0x0123456789abcdef, 0xfedcba9876543210}
	for x := range uint64(300) {
		l = append(l, x+1)
	}
	for k := 9; k < 64; k++ {
		p := uint64(1) << k
		l = append(l, p-2, p-1, p, p+1, p+2, p|p>>1, p|p>>3|5)
	}
	return l
}

// around are bits of one kind and of both, to stand ahead of a number and behind it.
func around() []string {
	l := []string{""}
	for n := 1; n <= 9; n++ {
		l = append(l, strings.Repeat("0", n), strings.Repeat("1", n), strings.Repeat("01", n))
	}
	return append(l, strings.Repeat("0", 63), strings.Repeat("0", 64), strings.Repeat("0", 70), strings.Repeat("1", 70))
}

// farOff are places at which nothing stands, with sums that would wrap.
func farOff() []int {
	return []int{math.MinInt, math.MinInt + 1, math.MinInt + 63, math.MinInt + 64, math.MinInt + 127, math.MinInt + 200, -1 << 32, -128, -127, -65, -64, -63, -2, -1, 1 << 32, 1<<61 - 1, math.MaxInt - 200, math.MaxInt - 127, math.MaxInt - 64, math.MaxInt - 63, math.MaxInt - 1, math.MaxInt}
}

// checkGet holds Get of b, whose bits are s, against the promise.
func checkGet(t *testing.T, b *bits.Bits, s string, at int) {
	t.Helper()
	want, wantEnd, wantOK := getAsRuled(s, at)
	if x, end, ok := Get(b, at); x != want || end != wantEnd || ok != wantOK {
		t.Fatalf("Get(%s, %d): %d, %d, %v, not %d, %d, %v", s, at, x, end, ok, want, wantEnd, wantOK)
	}
}

// checkAll holds All of b, whose bits are s, against the promise.
func checkAll(t *testing.T, b *bits.Bits, s string, at, n int) {
	t.Helper()
	want, wantEnd, wantOK := allAsRuled(s, at, n)
	l, end, ok := All(b, at, n)
	if !slices.Equal(l, want) || end != wantEnd || ok != wantOK {
		t.Fatalf("All(%s, %d, %d): %d, %d, %v, not %d, %d, %v", s, at, n, l, end, ok, want, wantEnd, wantOK)
	}
	if !ok && l != nil {
		t.Fatalf("All(%s, %d, %d): false, but a list", s, at, n)
	}
}

// P7.1: known bits.
func TestKnown(t *testing.T) {
	for _, c := range []struct {
		x    uint64
		want string
	}{
		{1, "1"},
		{2, "010"},
		{3, "011"},
		{4, "00100"},
		{5, "00101"},
		{7, "00111"},
		{8, "0001000"},
		{17, "000010001"},
		{255, "000000011111111"},
		{256, "00000000100000000"},
		{1 << 63, strings.Repeat("0", 63) + "1" + strings.Repeat("0", 63)},
		{math.MaxUint64, strings.Repeat("0", 63) + strings.Repeat("1", 64)},
	} {
		b := &bits.Bits{}
		if !Put(b, c.x) || text(b) != c.want {
			t.Errorf("Put of %d: %s, not %s", c.x, text(b), c.want)
		}
		if n := Len(c.x); n != len(c.want) {
			t.Errorf("Len(%d): %d, not %d", c.x, n, len(c.want))
		}
		if x, end, ok := Get(b, 0); x != c.x || end != len(c.want) || !ok {
			t.Errorf("Get of %s: %d, %d, %v", c.want, x, end, ok)
		}
	}
}

// P7.1: 2 k - 1 of k digits; 0 of 0.
func TestLen(t *testing.T) {
	if n := Len(0); n != 0 {
		t.Errorf("Len(0): %d", n)
	}
	for _, x := range edges() {
		if n, k := Len(x), len(strconv.FormatUint(x, 2)); n != 2*k-1 {
			t.Errorf("Len(%d): %d, not %d", x, n, 2*k-1)
		}
	}
	for x := range uint64(1 << 16) {
		if x > 0 && Len(x) != len(putAsRuled(x)) {
			t.Fatalf("Len(%d): %d", x, Len(x))
		}
	}
}

// P7.1: it is put behind what there is, wherever in a byte, and read from there.
func TestPutAndGet(t *testing.T) {
	for _, x := range edges() {
		for _, ahead := range around() {
			b := of(ahead)
			if !Put(b, x) {
				t.Fatalf("Put of %d: false", x)
			}
			s := ahead + putAsRuled(x)
			if text(b) != s {
				t.Fatalf("Put of %d behind %s: %s", x, ahead, text(b))
			}
			if got, end, ok := Get(b, len(ahead)); got != x || end != len(s) || !ok {
				t.Fatalf("Get of %d behind %s: %d, %d, %v", x, ahead, got, end, ok)
			}
		}
	}
}

// P7.1: what stands behind a number is none of its digits.
func TestGetAheadOfOthers(t *testing.T) {
	for _, x := range edges() {
		for _, behind := range around() {
			s := "10" + putAsRuled(x) + behind
			checkGet(t, of(s), s, 2)
		}
	}
}

// P7.1: false, nothing of 0 and of nil.
func TestPutOfNone(t *testing.T) {
	for _, ahead := range around() {
		b := of(ahead)
		for range 3 {
			if Put(b, 0) || text(b) != ahead {
				t.Fatalf("Put of 0 behind %s: %s", ahead, text(b))
			}
		}
		// What comes behind is put as if nothing had been asked.
		if !Put(b, 5) || text(b) != ahead+"00101" {
			t.Fatalf("Put of 5 behind %s: %s", ahead, text(b))
		}
	}
	for _, x := range []uint64{0, 1, 2, 1 << 63, math.MaxUint64} {
		if Put(nil, x) {
			t.Errorf("Put(nil, %d): true", x)
		}
	}
}

// P7.1: false, 0, at of a number that is cut off, wherever.
func TestGetCutOff(t *testing.T) {
	for _, x := range edges() {
		s := putAsRuled(x)
		for n := range len(s) {
			for _, ahead := range []string{"", "1", "0000000", "1111111101"} {
				at := len(ahead)
				if got, end, ok := Get(of(ahead+s[:n]), at); got != 0 || end != at || ok {
					t.Fatalf("Get of %s%s at %d: %d, %d, %v", ahead, s[:n], at, got, end, ok)
				}
			}
		}
	}
}

// P7.1: with 64 noughts no number begins, with 63 one does.
func TestGetNoughts(t *testing.T) {
	for n := 60; n <= 140; n++ {
		for _, behind := range []string{"", "1", "1" + strings.Repeat("0", 62), "1" + strings.Repeat("01", 31), "1" + strings.Repeat("0", 63), strings.Repeat("1", 64), strings.Repeat("10", 70)} {
			s := strings.Repeat("0", n) + behind
			b := of(s)
			for at := range len(s) + 2 {
				checkGet(t, b, s, at)
			}
		}
	}
	s := strings.Repeat("0", 64) + strings.Repeat("1", 200)
	if x, end, ok := Get(of(s), 0); x != 0 || end != 0 || ok {
		t.Errorf("Get of 64 noughts: %d, %d, %v", x, end, ok)
	}
	if x, end, ok := Get(of(s), 1); x != math.MaxUint64 || end != 128 || !ok {
		t.Errorf("Get of 63 noughts: %d, %d, %v", x, end, ok)
	}
}

// P7.1: all rows of up to 12 bits, read from everywhere.
func TestAllShortRows(t *testing.T) {
	for n := range 13 {
		for x := range uint64(1) << n {
			b := &bits.Bits{}
			b.PutNum(x, n)
			s := text(b)
			for at := -2; at <= n+2; at++ {
				checkGet(t, b, s, at)
				for many := -2; many <= n+2; many++ {
					checkAll(t, b, s, at, many)
				}
			}
			if text(b) != s {
				t.Fatalf("by being asked %s has become %s", s, text(b))
			}
		}
	}
}

// P7.1, P0.1, P0.6: places at which there is nothing.
func TestFarOff(t *testing.T) {
	for _, s := range []string{"", "1", "010", strings.Repeat("1", 200), putAsRuled(math.MaxUint64)} {
		b := of(s)
		for _, at := range append(farOff(), len(s), len(s)+1, len(s)+64) {
			if x, end, ok := Get(b, at); x != 0 || end != at || ok {
				t.Errorf("Get(%s, %d): %d, %d, %v", s, at, x, end, ok)
			}
			for _, n := range []int{math.MinInt, -1, 1, 2, 64, 1 << 40, math.MaxInt} {
				if l, end, ok := All(b, at, n); l != nil || end != at || ok {
					t.Errorf("All(%s, %d, %d): %d, %d, %v", s, at, n, l, end, ok)
				}
			}
		}
	}
}

// P7.1: of n 0 none, at, true, whatever at is; of n below 0 false.
func TestAllOfNone(t *testing.T) {
	for _, b := range []*bits.Bits{nil, {}, of("1"), of("0"), of(strings.Repeat("1", 100))} {
		for _, at := range append(farOff(), 0, 1, 2, 50, 100, 101) {
			if l, end, ok := All(b, at, 0); len(l) != 0 || end != at || !ok {
				t.Errorf("All(%s, %d, 0): %d, %d, %v", text(b), at, l, end, ok)
			}
			for _, n := range []int{-1, -2, -64, -1 << 32, math.MinInt + 1, math.MinInt} {
				if l, end, ok := All(b, at, n); l != nil || end != at || ok {
					t.Errorf("All(%s, %d, %d): %d, %d, %v", text(b), at, n, l, end, ok)
				}
			}
		}
	}
}

// P7.1: n behind one another, from each of them on; false where there are fewer.
func TestAllInARow(t *testing.T) {
	list := edges()
	b := &bits.Bits{}
	b.PutNum(5, 4)
	ends := []int{4}
	for _, x := range list {
		Put(b, x)
		ends = append(ends, ends[len(ends)-1]+len(putAsRuled(x)))
	}
	if b.Len() != ends[len(list)] {
		t.Fatalf("Len: %d, not %d", b.Len(), ends[len(list)])
	}
	for from, at := range ends {
		for _, n := range []int{0, 1, 2, 3, 50, len(list) - from} {
			if from+n > len(list) {
				continue
			}
			if l, end, ok := All(b, at, n); !slices.Equal(l, list[from:from+n]) || end != ends[from+n] || !ok {
				t.Fatalf("All from number %d on, %d of them: %d, %d, %v", from, n, l, end, ok)
			}
		}
		for _, n := range []int{len(list) - from + 1, len(list) + 7, 1 << 32, math.MaxInt} {
			if l, end, ok := All(b, at, n); l != nil || end != at || ok {
				t.Fatalf("All from number %d on, %d of them: %d, %d, %v", from, n, l, end, ok)
			}
		}
	}
}

// P7.1: the last one of them is cut off, or is 64 noughts.
func TestAllCutOff(t *testing.T) {
	ahead := putAsRuled(9) + putAsRuled(1) + putAsRuled(1000)
	for _, behind := range []string{"", "0", "01", "0010", strings.Repeat("0", 63) + strings.Repeat("1", 63), strings.Repeat("0", 64) + strings.Repeat("1", 80)} {
		b := of(ahead + behind)
		if l, end, ok := All(b, 0, 3); !slices.Equal(l, []uint64{9, 1, 1000}) || end != len(ahead) || !ok {
			t.Errorf("All of 3 ahead of %s: %d, %d, %v", behind, l, end, ok)
		}
		for _, n := range []int{4, 5, math.MaxInt} {
			if l, end, ok := All(b, 0, n); l != nil || end != 0 || ok {
				t.Errorf("All of %d with %s: %d, %d, %v", n, behind, l, end, ok)
			}
		}
	}
}

// P7.1, P0.1: in a nil *Bits no number begins.
func TestNil(t *testing.T) {
	for _, at := range append(farOff(), 0, 1, 64) {
		if x, end, ok := Get(nil, at); x != 0 || end != at || ok {
			t.Errorf("Get(nil, %d): %d, %d, %v", at, x, end, ok)
		}
		for _, n := range []int{1, 2, math.MaxInt} {
			if l, end, ok := All(nil, at, n); l != nil || end != at || ok {
				t.Errorf("All(nil, %d, %d): %d, %d, %v", at, n, l, end, ok)
			}
		}
	}
}

// P0.3, P0.5: what All answers is new memory, its spare room too.
func TestAnswerIsNew(t *testing.T) {
	s := putAsRuled(3) + putAsRuled(70) + putAsRuled(1) + putAsRuled(1<<40) + putAsRuled(6)
	want := []uint64{3, 70, 1, 1 << 40, 6}
	b := of(s)
	first, _, _ := All(b, 0, 5)
	second, _, _ := All(b, 0, 5)
	first = first[:cap(first)]
	for i := range first {
		first[i] = 1 << 50
	}
	if !slices.Equal(second, want) || text(b) != s {
		t.Errorf("another answer has become %d, the bits %s", second, text(b))
	}
	Put(b, 12)
	if l, end, ok := All(b, 0, 5); !slices.Equal(l, want) || end != len(s) || !ok || !slices.Equal(second, want) {
		t.Errorf("behind one more put: %d, %d, %v and %d", l, end, ok, second)
	}
}

// P0.1: a long row ends.
func TestLong(t *testing.T) {
	const many = 1 << 20
	b := &bits.Bits{}
	for i := range uint64(many) {
		Put(b, i*i*i+1)
	}
	l, end, ok := All(b, 0, many)
	if len(l) != many || end != b.Len() || !ok {
		t.Fatalf("All: %d numbers, %d, %v", len(l), end, ok)
	}
	for i, x := range l {
		if want := uint64(i)*uint64(i)*uint64(i) + 1; x != want {
			t.Fatalf("number %d: %d, not %d", i, x, want)
		}
	}
	if l, end, ok := All(b, 0, math.MaxInt); l != nil || end != 0 || ok {
		t.Fatalf("All of too many: %d numbers, %d, %v", len(l), end, ok)
	}
}
