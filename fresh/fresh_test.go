package fresh

import (
	"math"
	"strings"
	"testing"
	"unsafe"

	"loess/api"
)

// P0.3: all of r is there, of a record that may not be too, in memory that is its own.
func TestRec(t *testing.T) {
	for _, k := range []string{"", "k", "\xff\x00", strings.Repeat("k", 16), strings.Repeat("\x80", 1<<16)} {
		for _, s := range []string{"", "s", "\xff", strings.Repeat("\u00e9", 12), strings.Repeat("x", 1<<16)} {
			for _, gone := range []bool{false, true} {
				r := api.Rec{Key: k, Gone: gone, Val: api.Raw{Kind: api.VText, N: math.MinInt64, S: s}}
				was := r
				got := Rec(r)
				if got != was || r != was {
					t.Fatalf("Rec(%.100v): %.100v", was, got)
				}
				if k != "" && unsafe.StringData(got.Key) == unsafe.StringData(k) || s != "" && unsafe.StringData(got.Val.S) == unsafe.StringData(s) {
					t.Errorf("Rec(%.100v) shares a text's memory", was)
				}
			}
		}
	}
}

// P0.3: all of p is there, and of its value alone, in memory that is its own.
func TestPairAndRaw(t *testing.T) {
	for _, k := range []string{"", "k", "\xff\x00", strings.Repeat("k", 16), strings.Repeat("\x80", 1<<16)} {
		for _, s := range []string{"", "s", "\xff", strings.Repeat("\u00e9", 12), strings.Repeat("x", 1<<16)} {
			p := api.Pair{Key: k, Val: api.Raw{Kind: api.VText, N: math.MinInt64, S: s}}
			was := p
			got, v := Pair(p), Raw(p.Val)
			if got != was || v != was.Val || p != was {
				t.Fatalf("Pair(%.100v): %.100v, Raw: %.100v", was, got, v)
			}
			if k != "" && unsafe.StringData(got.Key) == unsafe.StringData(k) {
				t.Errorf("Pair(%.100v) shares its key's memory", was)
			}
			if s != "" && (unsafe.StringData(got.Val.S) == unsafe.StringData(s) || unsafe.StringData(v.S) == unsafe.StringData(s)) {
				t.Errorf("Pair or Raw of %.100v shares a text's memory", was)
			}
		}
	}
}

// P0.3: what becomes of the memory that was handed in is not to be seen.
func TestRecStays(t *testing.T) {
	k, s := []byte("key"), []byte("value")
	r := Rec(api.Rec{Key: unsafe.String(&k[0], len(k)), Val: api.Raw{Kind: api.VText, S: unsafe.String(&s[0], len(s))}})
	copy(k, "xxx")
	copy(s, "xxxxx")
	if r.Key != "key" || r.Val.S != "value" {
		t.Errorf("it has become %v", r)
	}
}

// P0.3: nor is it of a pair's, or a value's.
func TestPairAndRawStay(t *testing.T) {
	k, s := []byte("key"), []byte("value")
	p := api.Pair{Key: unsafe.String(&k[0], len(k)), Val: api.Raw{Kind: api.VText, S: unsafe.String(&s[0], len(s))}}
	got, v := Pair(p), Raw(p.Val)
	copy(k, "xxx")
	copy(s, "xxxxx")
	if got.Key != "key" || got.Val.S != "value" || v.S != "value" {
		t.Errorf("they have become %v, %v", got, v)
	}
}
