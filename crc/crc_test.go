package crc

import (
	"bytes"
	"hash/crc32"
	"math/bits"
	"strings"
	"testing"
)

// asRuled divides by the polynomial as the promise writes it, a bit at a time, and turns bits only on the way in and out.
func asRuled(b []byte) uint32 {
	rest := ^uint32(0)
	for _, c := range b {
		rest ^= uint32(bits.Reverse8(c)) << 24
		for range 8 {
			out := rest >> 31
			rest <<= 1
			if out == 1 {
				rest ^= 0x04c11db7
			}
		}
	}
	return ^bits.Reverse32(rest)
}

// mixed answers n bytes of all kinds, by a short rule.
func mixed(n int) []byte {
	b := make([]byte, n)
	x := uint32(1)
	for i := range b {
		x = x*1664525 + 1013904223
		b[i] = byte(x >> 24)
	}
	return b
}

// counted answers the bytes 0 to n-1.
func counted(n int) []byte {
	b := make([]byte, n)
	for i := range b {
		b[i] = byte(i)
	}
	return b
}

func TestKnownSums(t *testing.T) {
	for _, c := range []struct {
		b    string
		want uint32
	}{
		{"", 0},
		{"\x00", 0xd202ef8d},
		{"\x00\x00\x00\x00", 0x2144df1c},
		{"\xff", 0xff000000},
		{"\xff\xff\xff\xff", 0xffffffff},
		{"a", 0xe8b7be43},
		{"abc", 0x352441c2},
		{"123456789", 0xcbf43926},
		{"The quick brown fox jumps over the lazy dog", 0x414fa339},
		{strings.Repeat("\x00", 32), 0x190a55ad},
		{strings.Repeat("\xff", 32), 0xff6cab0b},
		{string(counted(32)), 0x91267e8a},
	} {
		if got := Sum([]byte(c.b)); got != c.want {
			t.Errorf("Sum(%x): %08x, not %08x", c.b, got, c.want)
		}
		if got := More(0, []byte(c.b)); got != c.want {
			t.Errorf("More(0, %x): %08x, not %08x", c.b, got, c.want)
		}
	}
}

// All inputs of one and of two bytes reach each entry of any table from both of a byte's halves.
func TestAllShort(t *testing.T) {
	for i := range 1 << 16 {
		b := []byte{byte(i >> 8), byte(i)}
		for n := 1; n <= 2; n++ {
			if got, want := Sum(b[:n]), asRuled(b[:n]); got != want {
				t.Fatalf("Sum(%x): %08x, not %08x", b[:n], got, want)
			}
		}
	}
}

func TestSumsOfAllLengths(t *testing.T) {
	for _, b := range [][]byte{mixed(700), make([]byte, 700), bytes.Repeat([]byte{0xff}, 700)} {
		for n := range len(b) + 1 {
			got := Sum(b[:n])
			if got != asRuled(b[:n]) || got != crc32.ChecksumIEEE(b[:n]) {
				t.Errorf("Sum of %d bytes, %.8x ...: %08x, not %08x", n, b, got, asRuled(b[:n]))
			}
		}
	}
}

func TestLong(t *testing.T) {
	b := mixed(1<<20 + 3)
	want := crc32.ChecksumIEEE(b)
	if got := Sum(b); got != want {
		t.Errorf("Sum of %d bytes: %08x, not %08x", len(b), got, want)
	}
	if got := More(Sum(b[:1<<19]), b[1<<19:]); got != want {
		t.Errorf("More of %d bytes: %08x, not %08x", len(b), got, want)
	}
}

// However a list is cut in two or in three, the sum stays.
func TestMoreAtEachCut(t *testing.T) {
	b := mixed(90)
	want := asRuled(b)
	for i := range len(b) + 1 {
		first := Sum(b[:i])
		if got := More(first, b[i:]); got != want {
			t.Errorf("cut at %d: %08x, not %08x", i, got, want)
		}
		for j := i; j <= len(b); j++ {
			if got := More(More(first, b[i:j]), b[j:]); got != want {
				t.Errorf("cut at %d and %d: %08x, not %08x", i, j, got, want)
			}
		}
	}
}

func TestMoreByteByByte(t *testing.T) {
	b := mixed(1000)
	sum := Sum(nil)
	for i := range b {
		sum = More(sum, b[i:i+1])
		if sum != asRuled(b[:i+1]) {
			t.Fatalf("behind %d bytes: %08x, not %08x", i+1, sum, asRuled(b[:i+1]))
		}
	}
}

// Each number is a sum of something, so More takes any.
func TestMoreOfAnySum(t *testing.T) {
	b := mixed(70)
	sums := []uint32{0, 1, 0x80000000, 0x7fffffff, 0xfffffffe, 0xffffffff, 0xedb88320, 0x04c11db7}
	for k := range 32 {
		sums = append(sums, 1<<k, ^uint32(1<<k))
	}
	for _, sum := range sums {
		for n := range len(b) + 1 {
			if got, want := More(sum, b[:n]), crc32.Update(sum, crc32.IEEETable, b[:n]); got != want {
				t.Errorf("More(%08x, %d bytes): %08x, not %08x", sum, n, got, want)
			}
		}
	}
}

// P0.4: a nil list is as an empty one; behind what was summed it changes nothing.
func TestNoBytes(t *testing.T) {
	for _, b := range [][]byte{nil, {}, []byte("spare room")[:0]} {
		if got := Sum(b); got != 0 {
			t.Errorf("Sum(%v): %08x", b, got)
		}
		for _, sum := range []uint32{0, 1, 0xcbf43926, 0xffffffff} {
			if got := More(sum, b); got != sum {
				t.Errorf("More(%08x, %v): %08x", sum, b, got)
			}
		}
	}
}

// A single bit that has changed is always told.
func TestEachBitCounts(t *testing.T) {
	b := mixed(64)
	was := Sum(b)
	for i := range 8 * len(b) {
		b[i/8] ^= 1 << (i % 8)
		if Sum(b) == was {
			t.Errorf("bit %d does not count", i)
		}
		b[i/8] ^= 1 << (i % 8)
	}
}

// P0.3: the argument stays, with its spare room, and the bytes behind it do not count.
func TestArgumentStays(t *testing.T) {
	all := mixed(80)
	kept := bytes.Clone(all)
	sum := Sum(all[:50])
	more := More(sum, all[:50])
	if !bytes.Equal(all, kept) {
		t.Errorf("the argument has become %x", all)
	}
	for i := 50; i < len(all); i++ {
		all[i] ^= 0xff
	}
	if Sum(all[:50]) != sum || More(sum, all[:50]) != more {
		t.Error("spare room counts")
	}
}

// P0.5: behind other calls the same call answers the same.
func TestAnswersHangOnArgumentsAlone(t *testing.T) {
	for i := range 3 {
		if got := Sum([]byte("123456789")); got != 0xcbf43926 {
			t.Errorf("call %d: Sum: %08x", i, got)
		}
		if got := More(0x9be3e0a3, []byte("56789")); got != 0xcbf43926 {
			t.Errorf("call %d: More: %08x", i, got)
		}
		Sum(mixed(100 + i))
		More(uint32(i), mixed(i))
	}
}
