package num

import (
	"bytes"
	"math"
	"math/big"
	"strings"
	"testing"

	"loess/api"
)

// edges are numbers at which the count of bytes or the sign changes, with their neighbours.
func edges() []int64 {
	l := []int64{0, math.MaxInt64, math.MaxInt64 - 1, math.MinInt64, math.MinInt64 + 1}
	for k := range 63 {
		p := int64(1) << k
		for d := int64(-2); d <= 2; d++ {
			if p <= math.MaxInt64-2 {
				l = append(l, p+d, -p+d)
			}
		}
	}
	return l
}

// asRuled writes n by the promise's own words, in numbers that can't wrap.
func asRuled(n int64) []byte {
	x := new(big.Int).Mul(big.NewInt(n), big.NewInt(2))
	if n < 0 {
		x.Neg(x)
		x.Sub(x, big.NewInt(1))
	}
	var out []byte
	for {
		low := new(big.Int)
		x.DivMod(x, big.NewInt(128), low)
		if x.Sign() == 0 {
			return append(out, byte(low.Int64()))
		}
		out = append(out, byte(low.Int64()+128))
	}
}

func mustFailGet(t *testing.T, b []byte, want api.Errno) {
	t.Helper()
	if n, k, err := Get(b); n != 0 || k != 0 || err != want {
		t.Errorf("Get(%x): %d, %d, %d, not 0, 0, %d", b, n, k, err, want)
	}
}

func mustFailText(t *testing.T, b []byte, want api.Errno) {
	t.Helper()
	if s, k, err := GetText(b); s != "" || k != 0 || err != want {
		t.Errorf("GetText(%.20x): %.20q, %d, %d, not none, 0, %d", b, s, k, err, want)
	}
}

func TestPutBytes(t *testing.T) {
	for _, c := range []struct {
		n    int64
		want string
	}{
		{0, "\x00"},
		{-1, "\x01"},
		{1, "\x02"},
		{-2, "\x03"},
		{63, "\x7e"},
		{-64, "\x7f"},
		{64, "\x80\x01"},
		{-65, "\x81\x01"},
		{300, "\xd8\x04"},
		{8191, "\xfe\x7f"},
		{-8192, "\xff\x7f"},
		{8192, "\x80\x80\x01"},
		{api.MaxNum, "\x80\x80\x80\x80\x80\x40"},
		{1<<62 - 1, "\xfe\xff\xff\xff\xff\xff\xff\xff\x7f"},
		{-1 << 62, "\xff\xff\xff\xff\xff\xff\xff\xff\x7f"},
		{1 << 62, "\x80\x80\x80\x80\x80\x80\x80\x80\x80\x01"},
		{math.MaxInt64, "\xfe\xff\xff\xff\xff\xff\xff\xff\xff\x01"},
		{math.MinInt64, "\xff\xff\xff\xff\xff\xff\xff\xff\xff\x01"},
	} {
		if got := Put(nil, c.n); string(got) != c.want {
			t.Errorf("Put(nil, %d): %x, not %x", c.n, got, c.want)
		}
	}
}

func TestPutAndGetAtEdges(t *testing.T) {
	for _, n := range edges() {
		want := asRuled(n)
		if got := Put([]byte("ab"), n); string(got) != "ab"+string(want) {
			t.Errorf("Put(ab, %d): %x, not ab and %x", n, got, want)
		}
		for _, behind := range []string{"", "\x00", "\x01", "\x80", "\xff\xff"} {
			b := append(bytes.Clone(want), behind...)
			if x, k, err := Get(b); x != n || k != len(want) || err != api.OK {
				t.Errorf("Get(%x): %d, %d, %d, not %d, %d", b, x, k, err, n, len(want))
			}
		}
		for k := range want {
			mustFailGet(t, want[:k], api.ErrMore)
		}
	}
}

func TestGetLongerThanNeeded(t *testing.T) {
	for _, n := range edges() {
		b := asRuled(n)
		b[len(b)-1] |= 0x80
		if len(b) == 10 {
			mustFailGet(t, b, api.ErrForm)
			continue
		}
		mustFailGet(t, b, api.ErrMore)
		for len(b) < 10 {
			mustFailGet(t, append(bytes.Clone(b), 0), api.ErrForm)
			mustFailGet(t, append(bytes.Clone(b), 0, 0), api.ErrForm)
			b = append(b, 0x80)
		}
		// Now the tenth byte is 128, above 1.
		mustFailGet(t, b, api.ErrForm)
	}
}

func TestGetTenthByte(t *testing.T) {
	for _, first := range []byte{0x80, 0x81, 0xff} {
		nine := bytes.Repeat([]byte{first}, 9)
		mustFailGet(t, nine, api.ErrMore)
		mustFailGet(t, append(bytes.Clone(nine), 0), api.ErrForm)
		if _, k, err := Get(append(bytes.Clone(nine), 1)); k != 10 || err != api.OK {
			t.Errorf("nine of %x, 1: %d, %d", first, k, err)
		}
		for c := 2; c < 256; c++ {
			mustFailGet(t, append(bytes.Clone(nine), byte(c)), api.ErrForm)
			mustFailGet(t, append(bytes.Clone(nine), byte(c), 1), api.ErrForm)
		}
	}
	mustFailGet(t, bytes.Repeat([]byte{0xff}, 1<<16), api.ErrForm)
	mustFailGet(t, bytes.Repeat([]byte{0x80}, 1<<16), api.ErrForm)
}

// Of all short inputs each is cut off, longer than needed, or begins with just what Put writes.
func TestGetAllShort(t *testing.T) {
	mustFailGet(t, nil, api.ErrMore)
	mustFailGet(t, []byte{}, api.ErrMore)
	for i := range 1 << 16 {
		b := []byte{byte(i >> 8), byte(i)}
		if b[0] >= 0x80 {
			mustFailGet(t, b[:1], api.ErrMore)
		}
		switch {
		case b[0] >= 0x80 && b[1] >= 0x80:
			mustFailGet(t, b, api.ErrMore)
		case b[0] >= 0x80 && b[1] == 0:
			mustFailGet(t, b, api.ErrForm)
		default:
			n, k, err := Get(b)
			if err != api.OK || k < 1 || k > 2 || !bytes.Equal(asRuled(n), b[:k]) {
				t.Fatalf("Get(%x): %d, %d, %d", b, n, k, err)
			}
		}
	}
}

func TestTextThereAndBack(t *testing.T) {
	every := make([]byte, 256)
	for i := range every {
		every[i] = byte(i)
	}
	for _, s := range []string{"", "a", "\x00", "\xff\xfe", "abc", "é\u2603", string(every),
		strings.Repeat("x", 63), strings.Repeat("x", 64), strings.Repeat("x", 8192),
		strings.Repeat("y", 1<<16-1), strings.Repeat("y", 1<<16)} {
		head := asRuled(int64(len(s)))
		b := PutText([]byte("ab"), s)
		if string(b) != "ab"+string(head)+s {
			t.Fatalf("PutText(ab, %.20q): %.20x", s, b)
		}
		for _, behind := range []string{"", "z", "\x80"} {
			got, k, err := GetText(append(bytes.Clone(b[2:]), behind...))
			if got != s || k != len(head)+len(s) || err != api.OK {
				t.Errorf("GetText of %.20q: %.20q, %d, %d", s, got, k, err)
			}
		}
		for _, k := range []int{0, 1, len(head) - 1, len(head), len(b) - 3} {
			if k >= 0 && k < len(b)-2 {
				mustFailText(t, b[2:2+k], api.ErrMore)
			}
		}
	}
}

func TestTextTooLong(t *testing.T) {
	s := strings.Repeat("x", 1<<16+1)
	b := PutText(nil, s)
	if string(b) != string(asRuled(1<<16+1))+s {
		t.Errorf("PutText of %d bytes: %d bytes, %.20x", len(s), len(b), b)
	}
	mustFailText(t, b, api.ErrForm)
}

func TestTextLengths(t *testing.T) {
	for _, n := range edges() {
		want := api.ErrForm
		if n == 0 {
			continue
		}
		if n > 0 && n <= 1<<16 {
			want = api.ErrMore
		}
		mustFailText(t, asRuled(n), want)
		if n < 0 || n > 1<<16 {
			mustFailText(t, append(asRuled(n), "abcdef"...), want)
		}
	}
	mustFailText(t, nil, api.ErrMore)
	mustFailText(t, []byte{}, api.ErrMore)
	mustFailText(t, []byte("\x80"), api.ErrMore)
	mustFailText(t, []byte("\x80\x00"), api.ErrForm)
	mustFailText(t, []byte("\x86\x00abc"), api.ErrForm)
	mustFailText(t, []byte("\x80\x80\x80\x80\x80\x80\x80\x80\x80\x02abc"), api.ErrForm)
	mustFailText(t, []byte("\x06ab"), api.ErrMore)
}

// P0.4: a nil list is as an empty one.
func TestPutBehindNone(t *testing.T) {
	for _, b := range [][]byte{nil, {}, make([]byte, 0, 40)} {
		if got := Put(b, -70); string(got) != "\x8b\x01" {
			t.Errorf("Put(%v): %x", b, got)
		}
		if got := PutText(b, "hi"); string(got) != "\x04hi" {
			t.Errorf("PutText(%v): %x", b, got)
		}
	}
}

// P0.3: the argument stays, with its spare room, whatever is written into the answer.
func TestArgumentsStay(t *testing.T) {
	puts := map[string]func([]byte) []byte{
		"Put of one byte":   func(b []byte) []byte { return Put(b, 5) },
		"Put of ten bytes":  func(b []byte) []byte { return Put(b, math.MinInt64) },
		"PutText of none":   func(b []byte) []byte { return PutText(b, "") },
		"PutText of a text": func(b []byte) []byte { return PutText(b, "hello") },
	}
	for name, put := range puts {
		for _, used := range []int{0, 3} {
			all := bytes.Repeat([]byte{'.'}, 40)
			first := put(all[:used])
			second := put(all[:used])
			kept := bytes.Clone(second[:cap(second)])
			first = first[:cap(first)]
			for i := range first {
				first[i] = '!'
			}
			if !bytes.Equal(all, bytes.Repeat([]byte{'.'}, 40)) {
				t.Errorf("%s: the argument has become %q", name, all)
			}
			if !bytes.Equal(second[:cap(second)], kept) {
				t.Errorf("%s: two answers share memory", name)
			}
			for i := range all {
				all[i] = '?'
			}
			if !bytes.Equal(second[:cap(second)], kept) {
				t.Errorf("%s: the answer shares memory with the argument", name)
			}
		}
	}
}

// P0.3: readers leave the bytes alone, and a text that was read keeps nothing of them.
func TestReadersLeaveBytes(t *testing.T) {
	b := PutText(nil, "hello")
	was := bytes.Clone(b)
	Get(b)
	s, _, _ := GetText(b)
	if !bytes.Equal(b, was) {
		t.Errorf("the argument has become %x", b)
	}
	for i := range b {
		b[i] = '!'
	}
	if s != "hello" {
		t.Errorf("the text has become %q", s)
	}
}

// P0.5: behind other calls, failed ones too, the same call answers the same.
func TestAnswersHangOnArgumentsAlone(t *testing.T) {
	for range 3 {
		if got := Put(nil, 1000); string(got) != "\xd0\x0f" {
			t.Errorf("Put(nil, 1000): %x", got)
		}
		if n, k, err := Get([]byte("\xd0\x0f\x02")); n != 1000 || k != 2 || err != api.OK {
			t.Errorf("Get: %d, %d, %d", n, k, err)
		}
		mustFailGet(t, []byte("\xd0"), api.ErrMore)
		if s, k, err := GetText([]byte("\x04hi\x04ho")); s != "hi" || k != 3 || err != api.OK {
			t.Errorf("GetText: %q, %d, %d", s, k, err)
		}
		mustFailText(t, []byte("\x04h"), api.ErrMore)
	}
}
