package bits

import (
	"bytes"
	"math"
	"slices"
	"testing"
)

// A list of bools is what the tests hold a Bits against: each call by the promise's own words, a bit at a time.

// numAsRuled answers the n bits of l from at on.
func numAsRuled(l []bool, at, n int) (uint64, bool) {
	if n < 0 || n > 64 || at < 0 || at > len(l) || len(l)-at < n {
		return 0, false
	}
	x := uint64(0)
	for _, bit := range l[at : at+n] {
		x *= 2
		if bit {
			x++
		}
	}
	return x, true
}

// bytesAsRuled answers the bits of l, eight a byte.
func bytesAsRuled(l []bool) []byte {
	var p []byte
	for len(l)%8 != 0 {
		l = append(slices.Clip(l), false)
	}
	for at := 0; at < len(l); at += 8 {
		x, _ := numAsRuled(l, at, 8)
		p = append(p, byte(x))
	}
	return p
}

// putAsRuled answers l and the lowest n bits of x behind it.
func putAsRuled(l []bool, x uint64, n int) []bool {
	if n < 0 || n > 64 {
		return l
	}
	for k := n - 1; k >= 0; k-- {
		l = append(l, x>>k&1 == 1)
	}
	return l
}

// draw answers numbers by a short rule, the same ones in each run.
func draw(x *uint64) uint64 {
	*x ^= *x << 13
	*x ^= *x >> 7
	*x ^= *x << 17
	return *x
}

// mixed answers n bits of both kinds.
func mixed(n int) []bool {
	x := uint64(88172645463325252)
	l := make([]bool, n)
	for i := range l {
		l[i] = draw(&x)>>40&1 == 1
	}
	return l
}

// all answers n bits that are all the same.
func all(n int, bit bool) []bool {
	return slices.Repeat([]bool{bit}, n)
}

// put answers the bits of l, put one by one.
func put(l []bool) *Bits {
	b := &Bits{}
	for _, bit := range l {
		b.Put(bit)
	}
	return b
}

// agree holds what b tells as a whole, and each of its bits, against l.
func agree(t *testing.T, b *Bits, l []bool) {
	t.Helper()
	if got := b.Len(); got != len(l) {
		t.Fatalf("Len: %d, not %d", got, len(l))
	}
	if got, want := b.Bytes(), bytesAsRuled(l); !bytes.Equal(got, want) {
		t.Fatalf("Bytes of %d bits: %x, not %x", len(l), got, want)
	}
	for i, bit := range l {
		if b.At(i) != bit {
			t.Fatalf("At(%d) of %d bits: %v", i, len(l), !bit)
		}
	}
	for _, i := range []int{-1, -8, math.MinInt, len(l), len(l) + 1, len(l) + 7, len(l) + 64, math.MaxInt} {
		if b.At(i) {
			t.Fatalf("At(%d) of %d bits: true", i, len(l))
		}
	}
}

// P6.1: a zero Bits has none.
func TestZero(t *testing.T) {
	var b Bits
	agree(t, &b, nil)
	if x, ok := b.Num(0, 0); x != 0 || !ok {
		t.Errorf("Num(0, 0): %d, %v", x, ok)
	}
	if x, ok := b.Num(0, 1); x != 0 || ok {
		t.Errorf("Num(0, 1): %d, %v", x, ok)
	}
	b.Put(true)
	agree(t, &b, []bool{true})
	agree(t, new(Bits), nil)
}

// P6.1: one more, behind the last one.
func TestPut(t *testing.T) {
	for _, l := range [][]bool{mixed(300), all(70, true), all(70, false)} {
		b := &Bits{}
		for i, bit := range l {
			b.Put(bit)
			agree(t, b, l[:i+1])
		}
	}
}

// P6.1: the lowest n bits, the highest first, wherever in a byte they begin.
func TestPutNum(t *testing.T) {
	for _, x := range []uint64{0, 1, 2, 5, 0x80, 0xff, 0x100, 0x2a5, 1 << 31, 1<<32 - 1, 1 << 32, 1<<63 - 1, 1 << 63, 1<<63 + 1, 1<<64 - 2, 1<<64 - 1, 0x0123456789abcdef, 0xfedcba9876543210} {
		for n := 0; n <= 64; n++ {
			for ahead := range 17 {
				for _, l := range [][]bool{all(ahead, false), all(ahead, true)} {
					b := put(l)
					b.PutNum(x, n)
					l = putAsRuled(l, x, n)
					agree(t, b, l)
					// What comes behind must find its place.
					b.Put(true)
					agree(t, b, append(l, true))
				}
			}
		}
	}
}

// P6.1: an n that is not 0 to 64 puts none.
func TestPutNumOfNone(t *testing.T) {
	for ahead := range 17 {
		l := mixed(ahead)
		b := put(l)
		for _, n := range []int{0, -1, -2, -63, -64, -65, -256, math.MinInt, math.MinInt + 1, 65, 66, 72, 127, 128, 129, 256, 1 << 32, math.MaxInt - 7, math.MaxInt} {
			for _, x := range []uint64{0, 1, 9, 1<<64 - 1} {
				b.PutNum(x, n)
				agree(t, b, l)
			}
		}
	}
}

// P6.1: numbers of all lengths in a row.
func TestPutNumInARow(t *testing.T) {
	seed := uint64(20261118)
	for range 200 {
		b := &Bits{}
		var l []bool
		for range 40 {
			x, n := draw(&seed), int(draw(&seed)%70)-2
			b.PutNum(x, n)
			l = putAsRuled(l, x, n)
		}
		agree(t, b, l)
	}
}

// P6.1: the n bits from at on, the first one highest; 0, false where they are not all there.
func TestNum(t *testing.T) {
	for _, l := range [][]bool{nil, mixed(1), mixed(7), mixed(8), mixed(9), mixed(63), all(64, true), mixed(65), all(65, false), mixed(72), all(73, true), mixed(150)} {
		b := put(l)
		for at := -2; at <= len(l)+2; at++ {
			for n := -2; n <= 67; n++ {
				want, wantOK := numAsRuled(l, at, n)
				if got, ok := b.Num(at, n); got != want || ok != wantOK {
					t.Fatalf("Num(%d, %d) of %d bits: %x, %v, not %x, %v", at, n, len(l), got, ok, want, wantOK)
				}
			}
		}
		agree(t, b, l)
	}
}

// P6.1, P0.6: no sum of at and n wraps.
func TestNumFarOff(t *testing.T) {
	far := []int{math.MinInt, math.MinInt + 1, math.MinInt + 64, -1 << 32, -65, -64, -1, 1 << 32, 1<<61 - 1, 1 << 61, math.MaxInt - 64, math.MaxInt - 63, math.MaxInt - 1, math.MaxInt}
	for _, b := range []*Bits{{}, put(mixed(20)), put(mixed(200))} {
		for _, x := range far {
			for _, y := range []int{0, 1, 8, 63, 64, 65, -1} {
				if got, ok := b.Num(x, y); got != 0 || ok {
					t.Errorf("Num(%d, %d): %x, %v", x, y, got, ok)
				}
			}
			for _, y := range append(far, 0, 1, 20) {
				if got, ok := b.Num(y, x); got != 0 || ok {
					t.Errorf("Num(%d, %d): %x, %v", y, x, got, ok)
				}
			}
		}
	}
}

// P6.1: Of takes just what Bytes answers, with as many bits.
func TestOf(t *testing.T) {
	for n := 0; n <= 140; n++ {
		for _, l := range [][]bool{mixed(n), all(n, true), all(n, false)} {
			p := bytesAsRuled(l)
			b, ok := Of(p, n)
			if !ok || b == nil {
				t.Fatalf("Of(%x, %d): %v", p, n, ok)
			}
			agree(t, b, l)
			// It goes on as one that was put together.
			b.Put(true)
			b.PutNum(6, 10)
			agree(t, b, putAsRuled(append(slices.Clip(l), true), 6, 10))
		}
	}
}

func mustFailOf(t *testing.T, p []byte, n int) {
	t.Helper()
	if b, ok := Of(p, n); b != nil || ok {
		t.Errorf("Of(%x, %d): %v, %v", p, n, b, ok)
	}
}

// P6.1: Of refuses too few bytes, too many, and a bit behind the last one.
func TestOfOthers(t *testing.T) {
	for n := -20; n <= 40; n++ {
		for k := range 8 {
			if n < 0 || k != (n+7)/8 {
				mustFailOf(t, make([]byte, k), n)
				mustFailOf(t, bytes.Repeat([]byte{0x80}, k), n)
			}
		}
	}
	for n := 1; n <= 40; n++ {
		for behind := n; behind%8 != 0; behind++ {
			for _, l := range [][]bool{mixed(n), all(n, true), all(n, false)} {
				p := bytesAsRuled(l)
				p[behind/8] |= 0x80 >> (behind % 8)
				mustFailOf(t, p, n)
			}
		}
	}
	for _, n := range []int{math.MinInt, math.MinInt + 1, math.MinInt + 8, -1 << 32, 1 << 32, 1<<32 + 8, math.MaxInt - 8, math.MaxInt - 7, math.MaxInt - 6, math.MaxInt - 1, math.MaxInt} {
		for _, p := range [][]byte{nil, {}, {0}, {0xff}, {0, 0}, make([]byte, 100)} {
			mustFailOf(t, p, n)
		}
	}
}

// P6.1: of all lists of one and of two bytes Of takes just those with noughts behind.
func TestOfAllShort(t *testing.T) {
	for i := range 1 << 16 {
		p := []byte{byte(i >> 8), byte(i)}
		for n := -1; n <= 17; n++ {
			if _, ok := Of(p[:1], n); ok != (n >= 1 && n <= 8 && p[0]<<n == 0) {
				t.Fatalf("Of(%x, %d): %v", p[:1], n, ok)
			}
			if _, ok := Of(p, n); ok != (n >= 9 && n <= 16 && p[1]<<(n-8) == 0) {
				t.Fatalf("Of(%x, %d): %v", p, n, ok)
			}
		}
	}
}

// P0.4: a nil list is as an empty one.
func TestOfNoBytes(t *testing.T) {
	for _, p := range [][]byte{nil, {}, []byte("spare room")[:0]} {
		b, ok := Of(p, 0)
		if !ok || b == nil {
			t.Fatalf("Of(%v, 0): %v", p, ok)
		}
		agree(t, b, nil)
		b.PutNum(0xa5, 8)
		agree(t, b, putAsRuled(nil, 0xa5, 8))
		mustFailOf(t, p, 1)
		mustFailOf(t, p, 8)
		mustFailOf(t, p, -1)
	}
}

// P6.1: a nil *Bits: none, 0, false.
func TestNil(t *testing.T) {
	var b *Bits
	for range 2 {
		b.Put(true)
		b.Put(false)
		for n := -1; n <= 65; n++ {
			b.PutNum(1<<64-1, n)
		}
		if b.Len() != 0 || len(b.Bytes()) != 0 {
			t.Fatalf("Len, Bytes: %d, %x", b.Len(), b.Bytes())
		}
		for _, i := range []int{math.MinInt, -1, 0, 1, 64, math.MaxInt} {
			if b.At(i) {
				t.Errorf("At(%d): true", i)
			}
			for n := -1; n <= 65; n++ {
				if x, ok := b.Num(i, n); x != 0 || ok {
					t.Errorf("Num(%d, %d): %d, %v", i, n, x, ok)
				}
			}
		}
	}
}

// P0.3: Of neither changes nor keeps its argument, its spare room neither.
func TestOfArgumentStays(t *testing.T) {
	room := bytes.Repeat([]byte{0x5a}, 40)
	room[2] = 0xe0
	kept := bytes.Clone(room)
	b, ok := Of(room[:3], 19)
	if !ok {
		t.Fatal("Of: false")
	}
	for range 5 {
		b.PutNum(1<<64-1, 61)
	}
	b.Bytes()[0] = 0
	if !bytes.Equal(room, kept) {
		t.Errorf("the argument has become %x", room)
	}
	was := b.Bytes()
	for i := range room {
		room[i] = 0
	}
	if !bytes.Equal(b.Bytes(), was) {
		t.Errorf("with the argument the bits have become %x", b.Bytes())
	}
}

// P0.3: what Bytes answers is new memory, its spare room too.
func TestBytesAreNew(t *testing.T) {
	for _, n := range []int{0, 1, 8, 9, 63, 64, 65, 200} {
		l := mixed(n)
		of, _ := Of(bytesAsRuled(l), n)
		for _, b := range []*Bits{put(l), of} {
			first, second := b.Bytes(), b.Bytes()
			first = first[:cap(first)]
			for i := range first {
				first[i] ^= 0xff
			}
			if !bytes.Equal(second, bytesAsRuled(l)) {
				t.Errorf("of %d bits: another answer has become %x", n, second)
			}
			agree(t, b, l)
			b.PutNum(0x1234, 64)
			agree(t, b, putAsRuled(l, 0x1234, 64))
			if !bytes.Equal(second, bytesAsRuled(l)) {
				t.Errorf("of %d bits: with what was put an earlier answer has become %x", n, second)
			}
		}
	}
}

// P0.5: what one has been told changes nothing of another, and asking changes nothing.
func TestEachOnItsOwn(t *testing.T) {
	p := bytesAsRuled(mixed(30))
	a, _ := Of(p, 30)
	b, _ := Of(p, 30)
	c := put(mixed(30))
	a.PutNum(1<<64-1, 64)
	b.Put(false)
	for range 3 {
		agree(t, a, putAsRuled(mixed(30), 1<<64-1, 64))
		agree(t, b, append(mixed(30), false))
		agree(t, c, mixed(30))
		c.Num(3, 20)
		c.Num(3, 64)
	}
}

// P0.1: a long row ends, and is told as it was put.
func TestLong(t *testing.T) {
	const many = 1 << 18
	b := &Bits{}
	x := uint64(7)
	for range many {
		b.PutNum(draw(&x), 37)
	}
	if b.Len() != 37*many {
		t.Fatalf("Len: %d", b.Len())
	}
	c, ok := Of(b.Bytes(), b.Len())
	if !ok {
		t.Fatal("Of its own bytes: false")
	}
	x = 7
	for i := range many {
		want := draw(&x) & (1<<37 - 1)
		got, _ := b.Num(37*i, 37)
		same, _ := c.Num(37*i, 37)
		if got != want || same != want {
			t.Fatalf("number %d: %x and %x, not %x", i, got, same, want)
		}
	}
}
