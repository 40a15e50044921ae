package hash

import (
	"bytes"
	"math"
	"math/big"
	"math/bits"
	"strings"
	"testing"
	"unicode/utf8"
	"unsafe"

	"loess/api"
)

// parts are the pieces from which the tests make texts: each length of a rune at its edges, and bytes with which none begins.
var parts = []string{
	"", "\x00", "\x01", " ", "A", "Z", "a", "b", "z", "\x7f",
	"\u0080", "\u00e9", "\u07ff", "\u0800", "\u2603", "\ud7ff", "\ue000", "\ufffc", "\ufffd", "\ufffe", "\uffff", "\U00010000", "\U0001f600", "\U0010ffff",
	"\x80", "\xbf", "\xc0", "\xc1", "\xc3", "\xe2\x98", "\xed\xa0\x80", "\xf0\x9f\x98", "\xf4\x90\x80\x80", "\xfe", "\xff",
}

// texts answers all texts of at most two parts.
func texts() []string {
	var l []string
	for _, a := range parts {
		for _, b := range parts {
			l = append(l, a+b)
		}
	}
	return l
}

// great answers the number that the decimal digits tell.
func great(digits string) *big.Int {
	x, ok := new(big.Int).SetString(digits, 10)
	if !ok {
		panic(digits)
	}
	return x
}

// hashAsRuled reckons a hash by the promise's own words in numbers that cannot wrap; the runes come one by one by package utf8.
func hashAsRuled(s string) uint64 {
	h := great("14695981039346656037")
	all := new(big.Int).Lsh(big.NewInt(1), 64)
	for s != "" {
		r, k := utf8.DecodeRuneInString(s)
		s = s[k:]
		h.Xor(h, big.NewInt(int64(r)))
		h.Mul(h, great("1099511628211"))
		h.Mod(h, all)
	}
	h.Xor(h, new(big.Int).Rsh(h, 32))
	h.Mul(h, great("11400714819323198485"))
	h.Mod(h, all)
	h.Xor(h, new(big.Int).Rsh(h, 29))
	return h.Uint64()
}

// hashes answers hashes at their edges: each bit alone, each but one, each row from the lowest or the highest bit on, and of texts.
func hashes() []uint64 {
	l := []uint64{0, math.MaxUint64, 0x0123456789abcdef, 0xfedcba9876543210}
	for i := range 64 {
		one := uint64(1) << i
		l = append(l, one, ^one, one-1, -one)
	}
	for _, s := range texts() {
		l = append(l, Of(s))
	}
	return l
}

// P9.1: the runes are mixed in one by one, and the end is mixed twice.
func TestOf(t *testing.T) {
	for _, s := range texts() {
		if got, want := Of(s), hashAsRuled(s); got != want {
			t.Fatalf("Of(%q): %#x, not %#x", s, got, want)
		}
	}
	for n := range 40 {
		for _, p := range parts {
			s := strings.Repeat(p, n)
			if got, want := Of(s), hashAsRuled(s); got != want {
				t.Fatalf("Of(%q): %#x, not %#x", s, got, want)
			}
		}
	}
}

// P9.1: hashes that were reckoned apart from the program.
func TestOfKnown(t *testing.T) {
	for s, want := range map[string]uint64{
		"":                 0x8570e250fe4c2473,
		"a":                0x82b19d9859a61322,
		"b":                0x4a14e8514a87f785,
		"key":              0xb3c6b12632d7ab04,
		"ab":               0xb43c19b545c52d76,
		"ba":               0x1cf321650b19f8c8,
		"aaaaaaaaaaaaaaaa": 0x14ffccb0e4d2503b,
		"\x00":             0x71d92418536132d1,
		"\x00\x00":         0x0651cb401b570433,
		"\u00e9\u2603":     0xbad27d5d9cf49828,
		"\U0001f600":       0xce5c7b8b945ccc60,
		"\U0010ffff":       0x4fb93cd221815848,
		"\ufffd":           0x044c39d58e40ea39,
		"\xff":             0x044c39d58e40ea39,
		"\xfe\x80":         0xc26c88d93b717a47,
	} {
		if got := Of(s); got != want {
			t.Errorf("Of(%q): %#x, not %#x", s, got, want)
		}
	}
}

// P9.1: of each byte alone, and of each rune alone, as those with which none begins are one rune.
func TestOfEach(t *testing.T) {
	for c := range 256 {
		s := string([]byte{byte(c)})
		if got, want := Of(s), hashAsRuled(s); got != want {
			t.Errorf("Of(%q): %#x, not %#x", s, got, want)
		}
		if c >= 0x80 && Of(s) != Of("\ufffd") {
			t.Errorf("Of(%q) is not that of U+FFFD", s)
		}
	}
	for r := rune(0); r <= utf8.MaxRune; r += 97 {
		s := string(r)
		if got, want := Of(s), hashAsRuled(s); got != want {
			t.Fatalf("Of(%q): %#x, not %#x", s, got, want)
		}
	}
}

// P9.1: texts of the same runes have one hash, and the others of these have hashes of their own.
func TestOfRunes(t *testing.T) {
	l := texts()
	seen := map[uint64][]rune{}
	for _, s := range l {
		h, r := Of(s), []rune(s)
		if was, ok := seen[h]; ok && string(was) != string(r) {
			t.Errorf("%q and %q have the hash %#x", was, r, h)
		}
		seen[h] = r
		if Of(string(r)) != h {
			t.Errorf("Of(%q) is not that of its runes", s)
		}
	}
}

// P0.1, P0.5: long texts end, and twice the same is asked twice the same is answered.
func TestOfLong(t *testing.T) {
	s := strings.Repeat("\u2603a\xff", 1<<14)
	want := hashAsRuled(s)
	for range 2 {
		if got := Of(s); got != want {
			t.Fatalf("Of a long text: %#x, not %#x", got, want)
		}
	}
	Of(strings.Repeat("\xf0\x9f", 1<<21))
}

// P0.3: what is handed in is not changed.
func TestOfChangesNothing(t *testing.T) {
	b := []byte("a\xff\u2603")
	Of(unsafe.String(&b[0], len(b)))
	if !bytes.Equal(b, []byte("a\xff\u2603")) {
		t.Errorf("Of changed its argument: %q", b)
	}
}

// P9.1: the bucket is the hash modulo 8.
func TestFirst(t *testing.T) {
	for _, h := range hashes() {
		_, want := bits.Div64(0, h, 8)
		if got := First(h); got < 0 || uint64(got) != want {
			t.Errorf("First(%#x): %d, not %d", h, got, want)
		}
	}
	for _, c := range []struct {
		h    uint64
		want int
	}{
		{0, 0}, {1, 1}, {7, 7}, {8, 0}, {15, 7}, {256, 0}, {1 << 63, 0}, {1<<63 + 5, 5}, {math.MaxUint64, 7}, {math.MaxUint64 - 7, 0},
	} {
		if got := First(c.h); got != c.want {
			t.Errorf("First(%#x): %d, not %d", c.h, got, c.want)
		}
	}
}

// P9.1: the tag is the hash shifted right by 8, modulo 32,768.
func TestTag(t *testing.T) {
	for _, h := range hashes() {
		_, want := bits.Div64(0, h/256, 32768)
		if got := Tag(h); got < 0 || uint64(got) != want {
			t.Errorf("Tag(%#x): %d, not %d", h, got, want)
		}
	}
	for _, c := range []struct {
		h    uint64
		want int
	}{
		{0, 0}, {255, 0}, {256, 1}, {511, 1}, {512, 2}, {32767 << 8, 32767}, {32767<<8 + 255, 32767}, {32768 << 8, 0}, {32769 << 8, 1}, {1 << 63, 0}, {math.MaxUint64, 32767}, {0x123456789abcdef5, 0x3cde},
	} {
		if got := Tag(c.h); got != c.want {
			t.Errorf("Tag(%#x): %d, not %d", c.h, got, c.want)
		}
	}
}

// P9.1: for each bucket and tag that there is, another bucket, from which the same tag leads back.
func TestOther(t *testing.T) {
	for bucket := range 8 {
		for tag := range 32768 {
			got := Other(bucket, tag)
			if want := bucket ^ (1 + tag%7); got != want {
				t.Fatalf("Other(%d, %d): %d, not %d", bucket, tag, got, want)
			}
			if got == bucket || got < 0 || got > 7 || Other(got, tag) != bucket {
				t.Fatalf("Other(%d, %d): %d, and from there %d", bucket, tag, got, Other(got, tag))
			}
		}
	}
	for _, c := range [][3]int{
		{0, 0, 1}, {0, 1, 2}, {0, 5, 6}, {0, 6, 7}, {0, 7, 1}, {7, 0, 6}, {7, 6, 0}, {5, 2, 6}, {3, 3, 7}, {4, 32767, 4 ^ 1}, {1, 32766, 1 ^ 7},
	} {
		if got := Other(c[0], c[1]); got != c[2] {
			t.Errorf("Other(%d, %d): %d, not %d", c[0], c[1], got, c[2])
		}
	}
}

// P9.1: -1 of a bucket or a tag that there is not, huge and negative ones too.
func TestOtherOfNone(t *testing.T) {
	out := []int{math.MinInt, math.MinInt + 1, math.MinInt32, -32768, -8, -7, -1, 32768, 32769, 65535, 65536, math.MaxInt32, 1 << 32, 1 << 40, math.MaxInt - 1, math.MaxInt}
	for _, bad := range out {
		for bucket := range 8 {
			if got := Other(bucket, bad); got != -1 {
				t.Errorf("Other(%d, %d): %d", bucket, bad, got)
			}
		}
		for _, tag := range append([]int{0, 1, 6, 7, 32766, 32767}, out...) {
			if got := Other(bad, tag); got != -1 {
				t.Errorf("Other(%d, %d): %d", bad, tag, got)
			}
		}
	}
	for bucket := 8; bucket < 70; bucket++ {
		if got := Other(bucket, 0); got != -1 {
			t.Errorf("Other(%d, 0): %d", bucket, got)
		}
	}
}

// P9.1: a hash's own bucket and tag have another bucket, and the numbers are those of package api.
func TestTogether(t *testing.T) {
	if api.Buckets != 8 || api.Tags != 32768 {
		t.Fatalf("%d buckets, %d tags", api.Buckets, api.Tags)
	}
	for _, h := range hashes() {
		first, tag := First(h), Tag(h)
		other := Other(first, tag)
		if other < 0 || other == first || Other(other, tag) != first {
			t.Errorf("%#x: bucket %d, tag %d, then %d", h, first, tag, other)
		}
	}
}
