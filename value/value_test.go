package value

import (
	"bytes"
	"encoding/binary"
	"math"
	"strings"
	"testing"
	"unicode/utf8"
	"unsafe"

	"loess/api"
)

// numbers are those at which a count of bytes or the sign changes.
func numbers() []int64 {
	l := []int64{math.MinInt64, math.MinInt64 + 1, math.MaxInt64 - 1, math.MaxInt64}
	for k := range 62 {
		p := int64(1) << k
		l = append(l, p-1, p, p+1, -p-1, -p, -p+1)
	}
	return l
}

// goodTexts may be, up to the last byte that fits.
func goodTexts() []string {
	return []string{
		"", "a", "ab", "\x00", "\x00\x00\x7f", "\ufffd", "a\ufffdb", "\u00e9\u2603\U0001f600", "\U0010ffff",
		strings.Repeat("x", 23), strings.Repeat("x", 24), strings.Repeat("\x00", 24), strings.Repeat("\u00e9", 12),
		strings.Repeat("\u2603", 8), strings.Repeat("\ufffd", 8), strings.Repeat("\U0001f600", 6),
	}
}

// badTexts may not be: too long, or not written in their bytes.
func badTexts() []string {
	return []string{
		strings.Repeat("x", 25), strings.Repeat("\u00e9", 12) + "x", strings.Repeat("\u00e9", 13), strings.Repeat("\u2603", 9),
		strings.Repeat("\x00", 25), strings.Repeat("x", 1<<16), strings.Repeat("\xff", 25), strings.Repeat("\xff", 24),
		"\x80", "\xff", "a\xffb", "\ufffd\x80", "\xef\xbf", "\xc0\x80", "\xed\xa0\x80", "\xf4\x90\x80\x80",
		strings.Repeat("x", 23) + "\xc3",
	}
}

// good are values that may be, each once.
func good() []api.Raw {
	l := []api.Raw{}
	seen := map[int64]bool{}
	for _, n := range numbers() {
		if !seen[n] {
			l = append(l, api.Raw{Kind: api.VNum, N: n})
		}
		seen[n] = true
	}
	for _, s := range goodTexts() {
		l = append(l, api.Raw{Kind: api.VText, S: s})
	}
	return l
}

// bad are values that may not be.
func bad() []api.Raw {
	l := []api.Raw{{}, {N: 1}, {S: "a"}, {N: 1, S: "a"}}
	for _, s := range badTexts() {
		l = append(l, api.Raw{Kind: api.VText, S: s}, api.Raw{Kind: api.VNum, S: s})
	}
	for _, n := range numbers() {
		if n != 0 {
			l = append(l, api.Raw{Kind: api.VText, N: n}, api.Raw{Kind: api.VText, N: n, S: "a"})
		}
		l = append(l, api.Raw{Kind: api.VNum, N: n, S: "a"}, api.Raw{Kind: api.VNum, N: n, S: "\x00"})
		if n != api.VNum && n != api.VText {
			l = append(l, api.Raw{Kind: int(n)}, api.Raw{Kind: int(n), N: 1}, api.Raw{Kind: int(n), S: "a"})
		}
	}
	return l
}

// asRuled writes r by the promise's own words, its numbers by the library's own seven bits a byte.
func asRuled(r api.Raw) []byte {
	b := binary.AppendVarint(nil, int64(r.Kind))
	if r.Kind == api.VNum {
		return binary.AppendVarint(b, r.N)
	}
	return append(binary.AppendVarint(b, int64(len(r.S))), r.S...)
}

func mustOf(t *testing.T, r api.Raw) Value {
	t.Helper()
	v, err := Of(r)
	if err != api.OK {
		t.Fatalf("Of(%v): %d", r, err)
	}
	return v
}

func mustGet(t *testing.T, b []byte, r api.Raw, n int) {
	t.Helper()
	if got, k, err := Get(b); got != r || k != n || err != api.OK {
		t.Errorf("Get(%.40x): %v, %d, %d, not %v, %d", b, got, k, err, r, n)
	}
}

func mustFailGet(t *testing.T, b []byte, want api.Errno) {
	t.Helper()
	if r, k, err := Get(b); r != (api.Raw{}) || k != 0 || err != want {
		t.Errorf("Get(%.40x): %v, %d, %d, not none, 0, %d", b, r, k, err, want)
	}
}

// panics tells whether MustNum does, of v.
func panics(v Value) (yes bool) {
	defer func() { yes = recover() != nil }()
	MustNum(v)
	return false
}

func TestNumbers(t *testing.T) {
	for _, n := range numbers() {
		r := api.Raw{Kind: api.VNum, N: n}
		v := mustOf(t, r)
		if v.Kind() != api.VNum || Raw(v) != r {
			t.Errorf("%d: kind %d, %v", n, v.Kind(), Raw(v))
		}
		if got, ok := Num(v); got != n || !ok {
			t.Errorf("Num of %d: %d, %v", n, got, ok)
		}
		if got, ok := Text(v); got != "" || ok {
			t.Errorf("Text of %d: %q, %v", n, got, ok)
		}
		if panics(v) || MustNum(v) != n {
			t.Errorf("MustNum of %d", n)
		}
	}
}

func TestTexts(t *testing.T) {
	for _, s := range goodTexts() {
		r := api.Raw{Kind: api.VText, S: s}
		v := mustOf(t, r)
		if v.Kind() != api.VText || Raw(v) != r {
			t.Errorf("%q: kind %d, %v", s, v.Kind(), Raw(v))
		}
		if got, ok := Text(v); got != s || !ok {
			t.Errorf("Text of %q: %q, %v", s, got, ok)
		}
		if got, ok := Num(v); got != 0 || ok {
			t.Errorf("Num of %q: %d, %v", s, got, ok)
		}
		if !panics(v) {
			t.Errorf("MustNum of %q does not panic", s)
		}
	}
}

func TestZero(t *testing.T) {
	var v Value
	if v.Kind() != api.VNone || Raw(v) != (api.Raw{}) {
		t.Errorf("kind %d, %v", v.Kind(), Raw(v))
	}
	if n, ok := Num(v); n != 0 || ok {
		t.Errorf("Num: %d, %v", n, ok)
	}
	if s, ok := Text(v); s != "" || ok {
		t.Errorf("Text: %q, %v", s, ok)
	}
	if !panics(v) {
		t.Error("MustNum does not panic")
	}
}

func TestMayNotBe(t *testing.T) {
	for _, r := range bad() {
		v, err := Of(r)
		if err != api.ErrForm || v != (Value{}) || v.Kind() != api.VNone || Raw(v) != (api.Raw{}) {
			t.Errorf("Of(%v): %v, %d", r, Raw(v), err)
		}
	}
}

// Every text of one byte and of two may be just when it is UTF-8.
func TestAllShortTexts(t *testing.T) {
	for i := range 1 << 16 {
		b := []byte{byte(i >> 8), byte(i)}
		for _, s := range []string{string(b[:1]), string(b)} {
			_, err := Of(api.Raw{Kind: api.VText, S: s})
			if (err == api.OK) != utf8.ValidString(s) {
				t.Fatalf("Of %q: %d", s, err)
			}
		}
	}
}

func TestEq(t *testing.T) {
	l := append([]api.Raw{{}}, good()...)
	for i, a := range l {
		for j, b := range l {
			va, _ := Of(a)
			vb, _ := Of(b)
			if Eq(va, vb) != (i == j) {
				t.Fatalf("Eq of %v, %v: %v", a, b, i != j)
			}
		}
	}
}

func TestPutBytes(t *testing.T) {
	for _, c := range []struct {
		r    api.Raw
		want string
	}{
		{api.Raw{Kind: api.VNum}, "\x02\x00"},
		{api.Raw{Kind: api.VNum, N: -1}, "\x02\x01"},
		{api.Raw{Kind: api.VNum, N: 64}, "\x02\x80\x01"},
		{api.Raw{Kind: api.VNum, N: math.MaxInt64}, "\x02\xfe\xff\xff\xff\xff\xff\xff\xff\xff\x01"},
		{api.Raw{Kind: api.VNum, N: math.MinInt64}, "\x02\xff\xff\xff\xff\xff\xff\xff\xff\xff\x01"},
		{api.Raw{Kind: api.VText}, "\x04\x00"},
		{api.Raw{Kind: api.VText, S: "ab"}, "\x04\x04ab"},
		{api.Raw{Kind: api.VText, S: "\u00e9\x00"}, "\x04\x06\xc3\xa9\x00"},
		{api.Raw{Kind: api.VText, S: strings.Repeat("x", 24)}, "\x04\x30xxxxxxxxxxxxxxxxxxxxxxxx"},
	} {
		if got := Put(nil, c.r); string(got) != c.want {
			t.Errorf("Put(nil, %v): %x, not %x", c.r, got, c.want)
		}
	}
}

func TestThereAndBack(t *testing.T) {
	for _, r := range good() {
		want := asRuled(r)
		if got := Put([]byte("ab"), r); string(got) != "ab"+string(want) {
			t.Errorf("Put(ab, %v): %x, not ab and %x", r, got, want)
		}
		for _, behind := range []string{"", "\x00", "\x80", "\xff\xff", "\x02\x00"} {
			mustGet(t, append(bytes.Clone(want), behind...), r, len(want))
		}
		for k := range want {
			mustFailGet(t, want[:k], api.ErrMore)
		}
	}
}

// Of what may not be Put writes nothing, and what Put would not have written Get does not take.
func TestWrittenThoughItMayNotBe(t *testing.T) {
	for _, r := range bad() {
		if got := Put([]byte("ab"), r); string(got) != "ab" {
			t.Errorf("Put(ab, %v): %x", r, got)
		}
		if len(Put(nil, r)) != 0 {
			t.Errorf("Put(nil, %v): %x", r, Put(nil, r))
		}
	}
	for _, s := range badTexts() {
		b := asRuled(api.Raw{Kind: api.VText, S: s})
		mustFailGet(t, b, api.ErrForm)
		mustFailGet(t, append(b, "\x02\x00"...), api.ErrForm)
	}
}

func TestGetOfAnotherKind(t *testing.T) {
	for _, kind := range append(numbers(), 0, 3, -2, 257, 258, 1<<32+1, 1<<32+2) {
		if kind == api.VNum || kind == api.VText {
			continue
		}
		// Nothing behind it is asked: bytes that are cut off, wrong, or those of a number and of a text.
		for _, behind := range []string{"", "\x80", "\x80\x00", "\x00", "\x04ab"} {
			mustFailGet(t, append(binary.AppendVarint(nil, kind), behind...), api.ErrForm)
		}
	}
}

func TestGetTellsNumsErrors(t *testing.T) {
	long := strings.Repeat("\x80", 9)
	for _, c := range []struct {
		b    string
		want api.Errno
	}{
		{"", api.ErrMore},
		{"\x82", api.ErrMore},
		{long, api.ErrMore},
		{"\x82\x00\x00", api.ErrForm},
		{"\x84\x00\x00", api.ErrForm},
		{long + "\x02", api.ErrForm},
		{"\x02", api.ErrMore},
		{"\x02\x80", api.ErrMore},
		{"\x02" + long, api.ErrMore},
		{"\x02\x80\x00", api.ErrForm},
		{"\x02" + long + "\x00", api.ErrForm},
		{"\x02" + long + "\x02", api.ErrForm},
		{"\x04", api.ErrMore},
		{"\x04\x80", api.ErrMore},
		{"\x04\x02", api.ErrMore},
		{"\x04\x06ab", api.ErrMore},
		{"\x04\x01a", api.ErrForm},
		{"\x04\x84\x00ab", api.ErrForm},
		{"\x04\x82\x80\x08", api.ErrForm},
		// The text is cut off: that it would be too long, or is not written in its bytes, comes behind.
		{"\x04\x32", api.ErrMore},
		{"\x04\x80\x80\x08", api.ErrMore},
		{"\x04\x04\xff", api.ErrMore},
		{"\x04\x04\xff\xff", api.ErrForm},
	} {
		mustFailGet(t, []byte(c.b), c.want)
	}
	mustFailGet(t, nil, api.ErrMore)
}

// What Get takes of any three bytes is just what Put writes of it.
func TestGetAllShort(t *testing.T) {
	for i := range 1 << 24 {
		b := []byte{byte(i >> 16), byte(i >> 8), byte(i)}
		r, k, err := Get(b)
		if err == api.OK {
			if k < 2 || k > 3 || !bytes.Equal(asRuled(r), b[:k]) {
				t.Fatalf("Get(%x): %v, %d", b, r, k)
			}
			continue
		}
		if r != (api.Raw{}) || k != 0 || err != api.ErrForm && err != api.ErrMore {
			t.Fatalf("Get(%x): %v, %d, %d", b, r, k, err)
		}
	}
}

// P0.4: a nil list is as an empty one.
func TestPutBehindNone(t *testing.T) {
	for _, b := range [][]byte{nil, {}, make([]byte, 0, 40)} {
		if got := Put(b, api.Raw{Kind: api.VText, S: "hi"}); string(got) != "\x04\x04hi" {
			t.Errorf("Put(%v): %x", b, got)
		}
		if got := Put(b, api.Raw{}); len(got) != 0 {
			t.Errorf("Put(%v) of none: %x", b, got)
		}
	}
}

// P0.3: the argument stays, with its spare room, whatever is written into the answer.
func TestArgumentsStay(t *testing.T) {
	for _, r := range []api.Raw{{Kind: api.VNum, N: math.MinInt64}, {Kind: api.VText, S: "hello"}, {Kind: api.VText}, {}} {
		for _, used := range []int{0, 3} {
			all := bytes.Repeat([]byte{'.'}, 40)
			first, second := Put(all[:used], r), Put(all[:used], r)
			kept := bytes.Clone(second[:cap(second)])
			first = first[:cap(first)]
			for i := range first {
				first[i] = '!'
			}
			if !bytes.Equal(all, bytes.Repeat([]byte{'.'}, 40)) {
				t.Errorf("Put of %v: the argument has become %q", r, all)
			}
			for i := range all {
				all[i] = '?'
			}
			if !bytes.Equal(second[:cap(second)], kept) {
				t.Errorf("Put of %v: the answer shares memory", r)
			}
		}
	}
}

// P0.3: Get leaves the bytes alone, and what it answers keeps nothing of them.
func TestGetLeavesBytes(t *testing.T) {
	b := Put(nil, api.Raw{Kind: api.VText, S: "hello"})
	was := bytes.Clone(b)
	r, _, _ := Get(b)
	if !bytes.Equal(b, was) {
		t.Errorf("the argument has become %x", b)
	}
	for i := range b {
		b[i] = '!'
	}
	if r.S != "hello" {
		t.Errorf("the text has become %q", r.S)
	}
}

// A value keeps nothing of the text it was made of, and hands out none of its own.
func TestTextsAreNew(t *testing.T) {
	s := strings.Repeat("hello", 4)
	v := mustOf(t, api.Raw{Kind: api.VText, S: s})
	first, _ := Text(v)
	second, _ := Text(v)
	kept := string(v.inside.(text))
	for _, got := range []string{kept, first, second, Raw(v).S} {
		if got != s || unsafe.StringData(got) == unsafe.StringData(s) {
			t.Errorf("%q shares memory with the argument", got)
		}
	}
	if unsafe.StringData(first) == unsafe.StringData(second) || unsafe.StringData(first) == unsafe.StringData(kept) {
		t.Error("an answer shares memory with the value")
	}
}

// P0.5: behind other calls, failed ones and a panic too, the same call answers the same.
func TestAnswersHangOnArgumentsAlone(t *testing.T) {
	r := api.Raw{Kind: api.VText, S: "a\u00e9"}
	for range 3 {
		v := mustOf(t, r)
		if !panics(v) || Raw(v) != r || !Eq(v, mustOf(t, r)) {
			t.Errorf("it has become %v", Raw(v))
		}
		mustGet(t, []byte("\x04\x06a\xc3\xa9\x02"), r, 5)
		mustFailGet(t, []byte("\x04\x06a\xc3"), api.ErrMore)
		if _, err := Of(api.Raw{Kind: api.VText, S: "\xff"}); err != api.ErrForm {
			t.Errorf("Of: %d", err)
		}
	}
}
