package key

import (
	"bytes"
	"strings"
	"testing"
	"unicode/utf8"
	"unsafe"
)

// parts are the pieces from which the tests make texts: each length of a rune at its edges, and bytes with which none begins.
var parts = []string{
	"", "\x00", "A", "Z", "a", "z", "@", "[", "`", "{", "\x7f",
	"\u0080", "\u07ff", "\u0800", "\ud7ff", "\ue000", "\ufffc", "\ufffd", "\ufffe", "\uffff", "\U00010000", "\U0010ffff",
	"\x80", "\xbf", "\xc0", "\xc1", "\xc3", "\xe2\x98", "\xed\xa0\x80", "\xf0\x9f\x98", "\xf4\x90\x80\x80", "\xfe", "\xff",
}

// texts answers all texts of at most two parts.
func texts() []string {
	var l []string
	for _, a := range parts {
		for _, b := range parts {
			l = append(l, a+b)
		}
	}
	return l
}

// runesAsRuled holds the runes against each other one by one, by package utf8.
func runesAsRuled(a, b string) int {
	for a != "" && b != "" {
		x, k := utf8.DecodeRuneInString(a)
		y, m := utf8.DecodeRuneInString(b)
		if x < y {
			return -1
		}
		if x > y {
			return 1
		}
		a, b = a[k:], b[m:]
	}
	if a == b {
		return 0
	}
	if a == "" {
		return -1
	}
	return 1
}

// lessAsRuled holds the bytes against each other one by one.
func lessAsRuled(a, b string) bool {
	for i := 0; i < len(a) && i < len(b); i++ {
		if a[i] != b[i] {
			return a[i] < b[i]
		}
	}
	return len(a) < len(b)
}

// P5.1: 1 to 16 bytes, any.
func TestMay(t *testing.T) {
	for n := 0; n <= 40; n++ {
		want := n >= 1 && n <= 16
		for _, c := range []string{"k", "\x00", "\xff", "\x80"} {
			if got := May(strings.Repeat(c, n)); got != want {
				t.Errorf("May(%d times %q): %v", n, c, got)
			}
		}
	}
	for c := range 256 {
		if !May(string([]byte{byte(c)})) {
			t.Errorf("May(byte %#x): false", c)
		}
	}
	// Bytes are counted, not runes.
	for s, want := range map[string]bool{
		strings.Repeat("\u00e9", 8):           true,
		strings.Repeat("\u00e9", 8) + "a":     false,
		strings.Repeat("\u00e9", 16):          false,
		strings.Repeat("\U0001f600", 4):       true,
		strings.Repeat("\U0001f600", 5):       false,
		strings.Repeat("k", 1<<16+8):          false,
		strings.Repeat("\xff", 1<<8+1):        false,
		strings.Repeat(" ", 16):               true,
		"\x00\x01\x02\n\r\t\"\\ \x7f\xff":     true,
		strings.Repeat("\x00", 15) + "\ufffd": false,
	} {
		if got := May(s); got != want {
			t.Errorf("May(%.40q): %v", s, got)
		}
	}
}

// P5.1: byte by byte.
func TestLess(t *testing.T) {
	l := texts()
	for _, a := range l {
		for _, b := range l {
			if got, want := Less(a, b), lessAsRuled(a, b); got != want {
				t.Fatalf("Less(%q, %q): %v", a, b, got)
			}
		}
	}
	for _, c := range []struct {
		a, b string
		want bool
	}{
		{"", "", false},
		{"", "\x00", true},
		{"\x00", "", false},
		{"a", "a\x00", true},
		{"a\x00", "a", false},
		{"Z", "a", true},
		{"a", "Z", false},
		{"10", "9", true},
		{"\x7f", "\x80", true}, // Bytes have no sign.
		{"\xff", "\x00", false},
		{"\xfe", "\xff", true},
		{"\ufffd", "\xff", true},
		{"\xff", "\U0001f600", false},
	} {
		if got := Less(c.a, c.b); got != c.want {
			t.Errorf("Less(%q, %q): %v", c.a, c.b, got)
		}
	}
}

// P5.1: one by one by their numbers, a shorter beginning ahead.
func TestRunes(t *testing.T) {
	l := texts()
	for _, a := range l {
		for _, b := range l {
			if got, want := Runes(a, b), runesAsRuled(a, b); got != want {
				t.Fatalf("Runes(%q, %q): %d, not %d", a, b, got, want)
			}
		}
	}
	for _, c := range []struct {
		a, b string
		want int
	}{
		{"", "", 0},
		{"", "\x00", -1},
		{"a", "a", 0},
		{"a", "a\x00", -1},
		{"aa", "b", -1},
		{"ab", "a\xff", -1},
		{"\u00e9", "z", 1},
		{"e\u0301", "\u00e9", -1}, // Runes alone count, not what they look like.
		{"\xfe", "\xff", 0},
		{"\xff", "\ufffd", 0},
		{"\xff\xff\xff", "\ufffd", 1},
		{"\xff", "\xff\xff", -1},
		{"\xff", "\ufffc", 1},
		{"\xff", "\ufffe", -1},
		{"\xff", "\U0001f600", -1},
		{"\xff\xffa", "\ufffd\xfeb", -1},
		{"\U0010ffff", "\U00010000", 1},
	} {
		if got := Runes(c.a, c.b); got != c.want {
			t.Errorf("Runes(%q, %q): %d, not %d", c.a, c.b, got, c.want)
		}
		if got := Runes(c.b, c.a); got != -c.want {
			t.Errorf("Runes(%q, %q): %d, not %d", c.b, c.a, got, -c.want)
		}
	}
}

// P5.1: of two that are written in their bytes it is their order byte by byte.
func TestRunesOfValid(t *testing.T) {
	l := texts()
	for _, a := range l {
		for _, b := range l {
			if !utf8.ValidString(a) || !utf8.ValidString(b) {
				continue
			}
			if (Runes(a, b) < 0) != Less(a, b) || (Runes(a, b) == 0) != (a == b) {
				t.Fatalf("%q, %q: %d, %v", a, b, Runes(a, b), Less(a, b))
			}
		}
	}
}

// P5.1: A to Z as a to z, all other bytes as they are.
func TestFold(t *testing.T) {
	for c := range 256 {
		for d := range 256 {
			s := []byte{byte(c), byte(d)}
			want := []byte{foldedByte(c), foldedByte(d)}
			if got := Fold(string(s)); got != string(want) {
				t.Fatalf("Fold(%q): %q, not %q", s, got, want)
			}
		}
	}
	for s, want := range map[string]string{
		"":                              "",
		"ABCDEFGHIJKLMNOPQRSTUVWXYZ":    "abcdefghijklmnopqrstuvwxyz",
		"abcdefghijklmnopqrstuvwxyz":    "abcdefghijklmnopqrstuvwxyz",
		"@[`{":                          "@[`{",
		"\u00c9\u0130\u212aK":           "\u00c9\u0130\u212ak", // Letters beyond A to Z stay.
		"\xc3A\xe2\x98Z\xff":            "\xc3a\xe2\x98z\xff",
		"\ufffdQ\x00":                   "\ufffdq\x00",
		strings.Repeat("A\xff", 100000): strings.Repeat("a\xff", 100000),
	} {
		if got := Fold(s); got != want {
			t.Errorf("Fold(%.40q): %.40q, not %.40q", s, got, want)
		}
	}
}

// foldedByte is what becomes of the byte c.
func foldedByte(c int) byte {
	if c >= 0x41 && c <= 0x5a {
		return byte(c + 0x20)
	}
	return byte(c)
}

// P0.3: what is answered is new memory, even where nothing is to be folded.
func TestFoldIsNew(t *testing.T) {
	for _, s := range []string{"red", "RED", "\xff"} {
		if unsafe.StringData(Fold(s)) == unsafe.StringData(s) {
			t.Errorf("Fold(%q) shares its argument's memory", s)
		}
	}
	b := []byte("Red and Blue")
	s := unsafe.String(&b[0], len(b))
	got := Fold(s)
	if !bytes.Equal(b, []byte("Red and Blue")) {
		t.Errorf("Fold changed its argument: %q", b)
	}
	b[0] = 'x'
	if got != "red and blue" {
		t.Errorf("the answer changed with the argument: %q", got)
	}
}

// P0.1, P0.5: long texts end, and twice the same is asked twice the same is answered.
func TestLong(t *testing.T) {
	a := strings.Repeat("\u2603\xff", 1<<18)
	for range 2 {
		if Runes(a, a) != 0 || Runes(a, a+"\x00") != -1 || Runes(a+"b", a+"a") != 1 || Less(a, a) || !Less(a, a+"\x00") || May(a) || Fold(a) != a {
			t.Fatal("long texts are answered wrong")
		}
	}
}
