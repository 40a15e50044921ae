package runes

import (
	"math"
	"slices"
	"strings"
	"testing"
	"unicode/utf8"
	"unsafe"
)

// asRuled reads s by tables of UTF-8's own: which second bytes each first byte takes, and how many bytes there are.
// It answers the runes, where each begins (and where the last one ends), and whether all are written in their bytes.
func asRuled(s string) ([]rune, []int, bool) {
	var l []rune
	begins := []int{0}
	valid := true
	for at := 0; at < len(s); {
		r, k := first(s[at:])
		if k == 0 {
			r, k, valid = 0xfffd, 1, false
		}
		l = append(l, r)
		at += k
		begins = append(begins, at)
	}
	return l, begins, valid
}

// first answers the rune with which s begins and its bytes; no bytes: none begins.
func first(s string) (rune, int) {
	low, high := byte(0x80), byte(0xbf)
	k, r := 0, rune(s[0])
	switch c := s[0]; {
	case c < 0x80:
		return r, 1
	case c >= 0xc2 && c <= 0xdf:
		k, r = 2, r&0x1f
	case c >= 0xe0 && c <= 0xef:
		k, r = 3, r&0x0f
	case c >= 0xf0 && c <= 0xf4:
		k, r = 4, r&0x07
	}
	switch s[0] {
	case 0xe0:
		low = 0xa0
	case 0xed:
		high = 0x9f
	case 0xf0:
		low = 0x90
	case 0xf4:
		high = 0x8f
	}
	if k == 0 || len(s) < k {
		return 0, 0
	}
	for i := 1; i < k; i++ {
		if s[i] < low || s[i] > high {
			return 0, 0
		}
		r = r<<6 | rune(s[i]&0x3f)
		low, high = 0x80, 0xbf
	}
	return r, k
}

// agree holds all calls on s against what is ruled.
func agree(t *testing.T, s string) {
	t.Helper()
	want, begins, valid := asRuled(s)
	if got := Of(s); !slices.Equal(got, want) {
		t.Fatalf("Of(%.40q): %U, not %U", s, got, want)
	}
	if got := Count(s); got != len(want) {
		t.Fatalf("Count(%.40q): %d, not %d", s, got, len(want))
	}
	if got := Valid(s); got != valid {
		t.Fatalf("Valid(%.40q): %v", s, got)
	}
	for n, r := range want {
		mustAt(t, s, n, r, begins[n], true)
		mustCut(t, s, n, s[:begins[n]])
	}
	for _, n := range []int{len(want), len(want) + 1, len(s) + 1, 1 << 32, math.MaxInt} {
		if n >= len(want) {
			mustAt(t, s, n, 0, 0, false)
			mustCut(t, s, n, s)
		}
	}
	for _, n := range []int{-1, -2, -len(want), -len(s) - 1, -1 << 32, math.MinInt} {
		if n < 0 {
			mustAt(t, s, n, 0, 0, false)
			mustCut(t, s, n, "")
		}
	}
}

func mustAt(t *testing.T, s string, n int, r rune, at int, ok bool) {
	t.Helper()
	if gr, gat, gok := At(s, n); gr != r || gat != at || gok != ok {
		t.Fatalf("At(%.40q, %d): %U, %d, %v, not %U, %d, %v", s, n, gr, gat, gok, r, at, ok)
	}
}

func mustCut(t *testing.T, s string, n int, want string) {
	t.Helper()
	if got := Cut(s, n); got != want {
		t.Fatalf("Cut(%.40q, %d): %.40q, not %.40q", s, n, got, want)
	}
}

// texts are of all kinds: of runes alone, of bytes that begin none, and of both.
func texts() []string {
	return []string{
		"", "a", "ab", "\x00", "\x7f", "\u0080", "\u07ff", "\u0800", "\ud7ff", "\ue000", "\uffff",
		"\U00010000", "\U0010ffff", "a\u00e9\u2603\U0001f600b", "\u0065\u0301", "\ufeff", "\ufffe",
		"\ufffd", "\ufffd\ufffd", "\ufffda\ufffd", "\ufffd\x80", "\x80\ufffd", "\ufffd\xef", "\xef\ufffd",
		"\xef\xbf\ufffd", "\xef\xbf", "\xef\xbfa", "\xef\xbf\xef\xbf\xbd", "\ufffd\xbd", "\ufffd\xbf\xbd",
		"\x80", "\xbf", "\xc0\x80", "\xc1\xbf", "\xc2", "\xc2a", "\xe0\x80\x80", "\xe0\x9f\xbf",
		"\xed\xa0\x80", "\xed\xbf\xbf", "\xed\xa0\xbd\xed\xb8\x80", "\xf0\x80\x80\x80", "\xf0\x8f\xbf\xbf",
		"\xf4\x90\x80\x80", "\xf5\x80\x80\x80", "\xf8\x88\x80\x80\x80", "\xfe", "\xff", "\xff\xff\xff\xff",
		"a\xe2\x98", "\xe2\x98a", "\xe2a\x98", "a\xf0\x9f\x98", "\xf0\x9f\x98b", "\u2603\x83", "x\xe2\u2603y",
	}
}

func TestKnown(t *testing.T) {
	for _, c := range []struct {
		s     string
		of    []rune
		valid bool
	}{
		{"", nil, true},
		{"ab", []rune{'a', 'b'}, true},
		{"\x00\x7f", []rune{0, 0x7f}, true},
		{"a\xc3\xa9\xe2\x98\x83\xf0\x9f\x98\x80", []rune{'a', 0xe9, 0x2603, 0x1f600}, true},
		{"\xf4\x8f\xbf\xbf", []rune{0x10ffff}, true},
		{"\xef\xbf\xbd", []rune{0xfffd}, true},
		{"\xef\xbf\xbd\xbd", []rune{0xfffd, 0xfffd}, false},
		{"\xef\xbf", []rune{0xfffd, 0xfffd}, false},
		{"\xed\xa0\x80", []rune{0xfffd, 0xfffd, 0xfffd}, false},
		{"\xc0\x80", []rune{0xfffd, 0xfffd}, false},
		{"\xf4\x90\x80\x80", []rune{0xfffd, 0xfffd, 0xfffd, 0xfffd}, false},
		{"a\xffb", []rune{'a', 0xfffd, 'b'}, false},
	} {
		if got := Of(c.s); !slices.Equal(got, c.of) {
			t.Errorf("Of(%q): %U, not %U", c.s, got, c.of)
		}
		if got := Count(c.s); got != len(c.of) {
			t.Errorf("Count(%q): %d, not %d", c.s, got, len(c.of))
		}
		if got := Valid(c.s); got != c.valid {
			t.Errorf("Valid(%q): %v", c.s, got)
		}
	}
}

func TestKnownPlaces(t *testing.T) {
	s := "a\u00e9\u2603\xff\U0001f600z"
	for n, c := range []struct {
		r   rune
		at  int
		cut string
	}{
		{'a', 0, ""},
		{0xe9, 1, "a"},
		{0x2603, 3, "a\u00e9"},
		{0xfffd, 6, "a\u00e9\u2603"},
		{0x1f600, 7, "a\u00e9\u2603\xff"},
		{'z', 11, "a\u00e9\u2603\xff\U0001f600"},
	} {
		mustAt(t, s, n, c.r, c.at, true)
		mustCut(t, s, n, c.cut)
	}
	mustAt(t, s, 6, 0, 0, false)
	mustAt(t, s, 11, 0, 0, false)
	mustAt(t, s, -1, 0, 0, false)
	mustCut(t, s, 6, s)
	mustCut(t, s, 7, s)
	mustCut(t, s, -1, "")
}

func TestTexts(t *testing.T) {
	for _, s := range texts() {
		agree(t, s)
		for _, behind := range texts() {
			agree(t, s+behind)
		}
	}
}

// Each rune there is, alone and cut off at each of its bytes; and each number that is written like one but is none.
func TestEachRune(t *testing.T) {
	for r := rune(0); r <= 0x1fffff; r++ {
		s := written(r)
		may := r <= 0x10ffff && (r < 0xd800 || r > 0xdfff)
		if got := Valid(s); got != may {
			t.Fatalf("Valid of %U: %v", r, got)
		}
		l := Of(s)
		if may && (len(l) != 1 || l[0] != r) || !may && len(l) != len(s) {
			t.Fatalf("Of of %U: %U", r, l)
		}
		for k := 1; k < len(s); k++ {
			if Valid(s[:k]) || Count(s[:k]) != k {
				t.Fatalf("%U, cut at %d: %v, %d", r, k, Valid(s[:k]), Count(s[:k]))
			}
		}
	}
}

// written writes any number of 21 bits in as few bytes as go, runes or not.
func written(r rune) string {
	tail := func(shift int) byte { return 0x80 | byte(r>>shift)&0x3f }
	switch {
	case r < 0x80:
		return string([]byte{byte(r)})
	case r < 0x800:
		return string([]byte{0xc0 | byte(r>>6), tail(0)})
	case r < 0x10000:
		return string([]byte{0xe0 | byte(r>>12), tail(6), tail(0)})
	}
	return string([]byte{0xf0 | byte(r>>18), tail(12), tail(6), tail(0)})
}

func TestAllShort(t *testing.T) {
	for i := range 1 << 16 {
		b := []byte{byte(i >> 8), byte(i)}
		agree(t, string(b[:1]))
		agree(t, string(b))
	}
}

// Of three to five bytes all rows of those at which UTF-8's rules change.
func TestRowsOfEdges(t *testing.T) {
	edges := "a\x7f\x80\x8f\x90\x9f\xa0\xbd\xbf\xc1\xc2\xdf\xe0\xed\xef\xf0\xf4\xf5\xff"
	var grow func(s string, n int, edges string)
	grow = func(s string, n int, edges string) {
		agree(t, s)
		for i := 0; i < len(edges) && n > 0; i++ {
			grow(s+edges[i:i+1], n-1, edges)
		}
	}
	grow("", 3, edges)
	grow("", 5, "a\x80\xbd\xbf\xe0\xef\xf4")
	for i := range len(edges) {
		grow("\xf0"+edges[i:i+1], 2, edges)
		grow("\xf4"+edges[i:i+1], 2, edges)
	}
}

// The other reading of a text that there is says the same.
func TestAsUTF8(t *testing.T) {
	x := uint32(1)
	for n := range 300 {
		b := make([]byte, n)
		for i := range b {
			x = x*1664525 + 1013904223
			b[i] = byte(x >> 24)
		}
		b = append(b, "\ufffd\u2603"...)
		s := string(b)
		agree(t, s)
		if !slices.Equal(Of(s), []rune(s)) || Count(s) != utf8.RuneCountInString(s) || Valid(s) != utf8.ValidString(s) {
			t.Fatalf("%q is read otherwise", s)
		}
	}
}

// Neither a fault at the end of a long text nor a rune there is missed.
func TestLong(t *testing.T) {
	s := strings.Repeat("a\u00e9\u2603\U0001f600", 1<<16)
	if Count(s) != 1<<18 || len(Of(s)) != 1<<18 || !Valid(s) || Valid(s+"\x80") || Valid(s[:len(s)-1]) {
		t.Errorf("%d, %d, %v", Count(s), len(Of(s)), Valid(s))
	}
	mustAt(t, s, 1<<18-1, 0x1f600, len(s)-4, true)
	mustAt(t, s, 1<<18, 0, 0, false)
	mustAt(t, s+"z", 1<<18, 'z', len(s), true)
	mustCut(t, s, 1<<18-1, s[:len(s)-4])
	mustCut(t, s, 1<<18, s)
	mustCut(t, s+"z", 1<<18, s)
}

// Cut and At meet: what Cut leaves out begins at At, and a text is its first runes and the rest.
func TestCutMeetsAt(t *testing.T) {
	for _, s := range texts() {
		for n := range Count(s) {
			_, at, ok := At(s, n)
			if got := Cut(s, n); !ok || len(got) != at || Count(got) != n || Count(s[at:]) != Count(s)-n {
				t.Errorf("%q at %d: %q, %d, %v", s, n, got, at, ok)
			}
		}
	}
}

// P0.3: an answer is new memory, spare room too.
func TestAnswersAreNew(t *testing.T) {
	for _, s := range []string{"", "ab", "a\u00e9\u2603\xff", strings.Repeat("\u2603", 100)} {
		first, second := Of(s), Of(s)
		want := slices.Clone(second[:cap(second)])
		first = first[:cap(first)]
		for i := range first {
			first[i] = '!'
		}
		if !slices.Equal(second[:cap(second)], want) {
			t.Errorf("two answers of Of(%.20q) share memory", s)
		}
		if got, _, _ := asRuled(s); !slices.Equal(Of(s), got) {
			t.Errorf("Of(%.20q) has become %U", s, Of(s))
		}
		for n := 1; n <= Count(s)+1; n++ {
			if got := Cut(s, n); got != "" && unsafe.StringData(got) == unsafe.StringData(s) {
				t.Errorf("Cut(%.20q, %d) shares memory with its argument", s, n)
			}
		}
	}
}

// P0.5: behind other calls the same call answers the same.
func TestAnswersHangOnArgumentsAlone(t *testing.T) {
	for i := range 3 {
		agree(t, "a\u00e9\xff\ufffd")
		agree(t, strings.Repeat("\u2603", i)+"\x80")
		agree(t, "")
	}
}
