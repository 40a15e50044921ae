package dev

import (
	"bytes"
	"math"
	"slices"
	"testing"

	"loess/api"
)

// What was told to a device, call by call, is what the tests hold it against: each answer is worked out from all of it by the promise's own words.

// told is a call: of Write at and b, of a fuse n.
type told struct {
	fn    string
	at, n int
	b     []byte
}

// ruled is a device of n sectors and what it was told. It was made with the bytes of first.
type ruled struct {
	n     int
	first []byte
	calls []told
}

// done answers the Writes and Flushes of r that were OK, and whether it is dead behind them.
func (r *ruled) done() ([]told, bool) {
	var l []told
	left, dead := -1, false
	for _, c := range r.calls {
		switch {
		case dead:
		case c.fn == "fuse":
			left = max(c.n, -1)
		case c.fn == "flush" || (c.at >= 0 && c.at < r.n && len(c.b) <= 64):
			l = append(l, c)
			if left > 0 {
				left--
			}
		}
		dead = dead || left == 0
	}
	return l, dead
}

// write answers what a Write answers.
func (r *ruled) write(i int, b []byte) api.Errno {
	if _, dead := r.done(); dead {
		return api.ErrDown
	}
	if i < 0 || i >= r.n {
		return api.ErrRange
	}
	if len(b) > 64 {
		return api.ErrForm
	}
	return api.OK
}

// flush answers what a Flush answers.
func (r *ruled) flush() api.Errno {
	if _, dead := r.done(); dead {
		return api.ErrDown
	}
	return api.OK
}

// holds answers all bytes behind the calls of l.
func (r *ruled) holds(l []told) []byte {
	all := make([]byte, r.n*64)
	copy(all, r.first)
	for _, c := range l {
		if c.fn == "write" {
			copy(all[c.at*64:], c.b)
		}
	}
	return all
}

// loose answers the sectors that were written behind the last Flush, rising.
func (r *ruled) loose() []int {
	l, _ := r.done()
	var at []int
	for i := range r.n {
		for _, c := range slices.Backward(l) {
			if c.fn == "flush" {
				break
			}
			if c.at == i {
				at = append(at, i)
				break
			}
		}
	}
	return at
}

// crash answers all bytes behind a crash.
func (r *ruled) crash(keep []bool) []byte {
	l, _ := r.done()
	now := r.holds(l)
	for len(l) > 0 && l[len(l)-1].fn != "flush" {
		l = l[:len(l)-1]
	}
	all := r.holds(l)
	for k, i := range r.loose() {
		if k < len(keep) && keep[k] {
			copy(all[i*64:i*64+64], now[i*64:])
		}
	}
	return all
}

// bytesOf answers all that d holds.
func bytesOf(t *testing.T, d *Dev) []byte {
	t.Helper()
	var all []byte
	for i := range d.Len() {
		b, err := d.Read(i)
		if err != api.OK || len(b) != 64 {
			t.Fatalf("Read(%d): %d bytes, %v", i, len(b), err)
		}
		all = append(all, b...)
	}
	return all
}

// holdsTo holds all that d tells against r.
func (r *ruled) holdsTo(t *testing.T, d *Dev) {
	t.Helper()
	l, dead := r.done()
	if d.Len() != r.n {
		t.Fatalf("Len: %d, not %d", d.Len(), r.n)
	}
	if !bytes.Equal(bytesOf(t, d), r.holds(l)) {
		t.Fatalf("%+v: the bytes are others", r.calls)
	}
	if got, want := d.Loose(), r.loose(); !slices.Equal(got, want) {
		t.Fatalf("%+v: Loose: %v, not %v", r.calls, got, want)
	}
	if d.Calls() != len(l) {
		t.Fatalf("%+v: Calls: %d, not %d", r.calls, d.Calls(), len(l))
	}
	if d.Dead() != dead {
		t.Fatalf("%+v: Dead: %v", r.calls, !dead)
	}
}

// tell tells d and r the same call, and holds what d answers against r.
func (r *ruled) tell(t *testing.T, d *Dev, c told) {
	t.Helper()
	got, want := api.OK, api.OK
	switch c.fn {
	case "write":
		want = r.write(c.at, c.b)
		got = d.Write(c.at, c.b)
	case "flush":
		want = r.flush()
		got = d.Flush()
	case "fuse":
		d.Fuse(c.n)
	}
	if got != want {
		t.Fatalf("%+v, then %+v: %v, not %v", r.calls, c, got, want)
	}
	r.calls = append(r.calls, c)
	r.holdsTo(t, d)
}

// draw answers a number below n by a short rule, the same ones in each run.
func draw(x *uint64, n int) int {
	*x ^= *x << 13
	*x ^= *x >> 7
	*x ^= *x << 17
	return int(*x >> 33 % uint64(n))
}

// drawn answers a call to a device of some four sectors.
func drawn(x *uint64) told {
	switch k := draw(x, 20); {
	case k < 13:
		b := make([]byte, []int{0, 1, 2, 3, 63, 64, 65}[draw(x, 7)])
		for i := range b {
			b[i] = byte(draw(x, 256))
		}
		return told{fn: "write", at: draw(x, 6) - 1, b: b}
	case k < 17:
		return told{fn: "flush"}
	case k == 17:
		return told{fn: "fuse", n: -1 - draw(x, 2)}
	}
	return told{fn: "fuse", n: draw(x, 12)}
}

// someKeeps answers lists of up to six bools: all that begin a short one, and longer ones.
func someKeeps() [][]bool {
	var l [][]bool
	for n := range 7 {
		for k := range 1 << n {
			keep := make([]bool, n)
			for i := range keep {
				keep[i] = k>>i&1 == 1
			}
			l = append(l, keep)
		}
	}
	return append(l, slices.Repeat([]bool{true}, 5000), slices.Repeat([]bool{false, true}, 2500))
}

// P11.1, P11.2: all calls, in whatever order they come, and what a crash leaves behind each of them.
func TestAgainstHistory(t *testing.T) {
	x := uint64(88172645463325252)
	keeps := someKeeps()
	for range 120 {
		n := 1 + draw(&x, 5)
		d, r := New(n), &ruled{n: n}
		for range 40 {
			r.tell(t, d, drawn(&x))
			keep := keeps[draw(&x, len(keeps))]
			c := d.Crash(keep...)
			after := &ruled{n: n, first: r.crash(keep)}
			after.holdsTo(t, c)
			// What the crash's device is told is nothing that the old one is.
			for range 4 {
				after.tell(t, c, drawn(&x))
			}
			r.holdsTo(t, d)
			if draw(&x, 10) == 0 {
				d, r = c, after
			}
		}
	}
}

// P11.2: all ways to keep some of the loose sectors.
func TestCrashKeeps(t *testing.T) {
	d, r := New(6), &ruled{n: 6}
	for _, c := range []told{
		{fn: "write", at: 0, b: []byte("ab")}, {fn: "write", at: 2, b: []byte("cd")}, {fn: "flush"},
		{fn: "write", at: 5, b: []byte("e")}, {fn: "write", at: 2, b: []byte("f")}, {fn: "write", at: 1}, {fn: "write", at: 5, b: []byte("gh")}, {fn: "write", at: 3, b: []byte("i")},
	} {
		r.tell(t, d, c)
	}
	for _, keep := range append(someKeeps(), nil) {
		handed := slices.Clone(keep)
		c := d.Crash(handed...)
		if !slices.Equal(handed, keep) {
			t.Fatalf("Crash of %v changes it", keep)
		}
		(&ruled{n: 6, first: r.crash(keep)}).holdsTo(t, c)
		// All that it holds lasts.
		if !bytes.Equal(bytesOf(t, c.Crash()), r.crash(keep)) {
			t.Fatalf("Crash of %v: a crash of it holds others", keep)
		}
	}
	r.holdsTo(t, d)
}

// P11.2: a dead device's crash is alive and without a fuse; so is that of one whose fuse burns.
func TestCrashLives(t *testing.T) {
	for fuse := range 6 {
		d := New(2)
		d.Fuse(fuse)
		for range 3 {
			d.Write(1, []byte("a"))
		}
		c := d.Crash(true)
		if c.Dead() || c.Calls() != 0 || len(c.Loose()) != 0 {
			t.Errorf("Fuse(%d): %v, %d, %v", fuse, c.Dead(), c.Calls(), c.Loose())
		}
		for k := range 20 {
			if c.Write(0, []byte{byte(k)}) != api.OK || c.Flush() != api.OK {
				t.Errorf("Fuse(%d): the crash's device has a fuse", fuse)
			}
		}
		if d.Dead() != (fuse <= 3) {
			t.Errorf("Fuse(%d): the old one does not stay", fuse)
		}
	}
}

// P11.1: n sectors of 64 noughts, from 1 to 2,048.
func TestNew(t *testing.T) {
	for _, c := range []struct{ n, want int }{
		{1, 1}, {2, 2}, {63, 63}, {64, 64}, {2047, 2047}, {2048, 2048},
		{0, 1}, {-1, 1}, {-2048, 1}, {math.MinInt, 1}, {2049, 2048}, {1 << 32, 2048}, {math.MaxInt, 2048},
	} {
		(&ruled{n: c.want}).holdsTo(t, New(c.n))
	}
}

// P11.1: ErrRange, and nothing beside it.
func TestReadWrong(t *testing.T) {
	for _, n := range []int{1, 5, 2048} {
		d := New(n)
		for _, i := range []int{-1, -64, math.MinInt, n, n + 1, 2049, 1 << 32, math.MaxInt} {
			if b, err := d.Read(i); len(b) != 0 || err != api.ErrRange {
				t.Errorf("Read(%d) of %d sectors: %x, %v", i, n, b, err)
			}
		}
	}
}

// P11.1: no such sector, then too many bytes; each does nothing.
func TestWriteWrong(t *testing.T) {
	d, r := New(3), &ruled{n: 3}
	r.tell(t, d, told{fn: "write", at: 2, b: bytes.Repeat([]byte{7}, 64)})
	r.tell(t, d, told{fn: "flush"})
	for _, at := range []int{-1, math.MinInt, 3, 4, 1 << 40, math.MaxInt, 2} {
		for _, n := range []int{0, 1, 64, 65, 66, 128, 192, 100000} {
			if at == 2 && n <= 64 {
				continue
			}
			r.tell(t, d, told{fn: "write", at: at, b: make([]byte, n)})
		}
	}
	if d.Write(3, make([]byte, 65)) != api.ErrRange || d.Write(2, make([]byte, 65)) != api.ErrForm {
		t.Error("the order of the errors")
	}
}

// P11.1: the rest of the sector is as it was, and so are the others; no bytes are a Write too.
func TestWriteLengths(t *testing.T) {
	for n := range 65 {
		d, r := New(3), &ruled{n: 3}
		for i := range 3 {
			r.tell(t, d, told{fn: "write", at: i, b: bytes.Repeat([]byte{9}, 64)})
		}
		r.tell(t, d, told{fn: "flush"})
		r.tell(t, d, told{fn: "write", at: 1, b: bytes.Repeat([]byte{5}, n)})
	}
	d, r := New(2), &ruled{n: 2}
	r.tell(t, d, told{fn: "write", at: 1})
	r.tell(t, d, told{fn: "write", at: 0, b: []byte{}})
	if got := d.Loose(); !slices.Equal(got, []int{0, 1}) || d.Calls() != 2 {
		t.Errorf("Loose: %v, Calls: %d", got, d.Calls())
	}
}

// P11.1: the next n are done, then none, whatever stands in between; what was written stays to be read.
func TestFuse(t *testing.T) {
	for n := range 12 {
		d, r := New(4), &ruled{n: 4}
		r.tell(t, d, told{fn: "write", at: 0, b: []byte("a")})
		r.tell(t, d, told{fn: "fuse", n: n})
		for k := range 14 {
			if d.Dead() != (k >= n) {
				t.Fatalf("Fuse(%d), %d calls: Dead: %v", n, k, d.Dead())
			}
			if k%3 == 2 {
				r.tell(t, d, told{fn: "flush"})
				continue
			}
			r.tell(t, d, told{fn: "write", at: k % 4, b: []byte{byte(k), 1}})
		}
		if d.Calls() != n+1 {
			t.Errorf("Fuse(%d): Calls: %d", n, d.Calls())
		}
		// ErrDown stands ahead of the other errors.
		for _, c := range []told{{fn: "write", at: -1}, {fn: "write", at: 4, b: make([]byte, 65)}, {fn: "write", at: 0, b: make([]byte, 65)}, {fn: "flush"}} {
			r.tell(t, d, c)
		}
		if d.Write(4, make([]byte, 65)) != api.ErrDown {
			t.Errorf("Fuse(%d): a dead one tells another error", n)
		}
	}
}

// P11.1: what is not done burns no fuse; a later Fuse takes the place of the one ahead of it.
func TestFuseAnew(t *testing.T) {
	for _, c := range []struct {
		fuses []int
		left  int // how many calls are done behind them, up to 20
	}{
		{[]int{3}, 3}, {[]int{3, 5}, 5}, {[]int{5, 3}, 3}, {[]int{3, -1}, 20}, {[]int{-1, 3}, 3}, {[]int{3, math.MinInt}, 20},
		{[]int{math.MaxInt}, 20}, {[]int{math.MaxInt, 1}, 1}, {[]int{-1}, 20}, {[]int{}, 20},
		{[]int{0}, 0}, {[]int{0, 4}, 0}, {[]int{0, -1}, 0}, {[]int{0, 0}, 0}, {[]int{2, 0, 7, -1, 9}, 0},
	} {
		d, r := New(2), &ruled{n: 2}
		for _, n := range c.fuses {
			r.tell(t, d, told{fn: "fuse", n: n})
		}
		for range 20 {
			r.tell(t, d, told{fn: "write", at: 7})
			r.tell(t, d, told{fn: "write", at: 1, b: make([]byte, 65)})
			r.tell(t, d, told{fn: "flush"})
		}
		if d.Calls() != c.left || d.Dead() != (c.left < 20) {
			t.Errorf("Fuse of %v: Calls: %d, Dead: %v", c.fuses, d.Calls(), d.Dead())
		}
	}
}

// P11.2: a nil *Dev.
func TestNil(t *testing.T) {
	var d *Dev
	for _, n := range []int{3, 0, -1, math.MinInt, math.MaxInt} {
		d.Fuse(n)
		if b, err := d.Read(n); b != nil || err != api.ErrDown {
			t.Errorf("Read(%d): %x, %v", n, b, err)
		}
		if err := d.Write(n, make([]byte, 65)); err != api.ErrDown {
			t.Errorf("Write(%d): %v", n, err)
		}
	}
	if err := d.Flush(); err != api.ErrDown {
		t.Errorf("Flush: %v", err)
	}
	if d.Len() != 0 || d.Calls() != 0 || d.Loose() != nil || !d.Dead() {
		t.Errorf("%d, %d, %v, %v", d.Len(), d.Calls(), d.Loose(), d.Dead())
	}
	if d.Crash() != nil || d.Crash(true, false) != nil {
		t.Error("Crash")
	}
}

// P0.5: the same calls, the same answers.
func TestRepeats(t *testing.T) {
	x := uint64(362436069)
	var calls []told
	for range 60 {
		calls = append(calls, drawn(&x))
	}
	for range 3 {
		d, r := New(4), &ruled{n: 4}
		for _, c := range calls {
			r.tell(t, d, c)
		}
	}
}

// P0.1: a Dev that no New made has no sectors, and its calls end.
func TestZero(t *testing.T) {
	var d Dev
	(&ruled{}).holdsTo(t, &d)
	if b, err := d.Read(0); b != nil || err != api.ErrRange {
		t.Errorf("Read: %x, %v", b, err)
	}
	if d.Write(0, nil) != api.ErrRange || d.Flush() != api.OK || d.Crash(true).Len() != 0 {
		t.Error("a zero Dev")
	}
}

// P0.3: what is handed in stays, its spare room too, and none of it is kept.
func TestArgumentsStay(t *testing.T) {
	room := bytes.Repeat([]byte{3}, 100)
	d := New(2)
	if d.Write(1, room[:10]) != api.OK {
		t.Fatal("Write")
	}
	if !bytes.Equal(room, bytes.Repeat([]byte{3}, 100)) {
		t.Error("Write changes what is handed in")
	}
	clear(room)
	if b, _ := d.Read(1); !bytes.Equal(b, append(bytes.Repeat([]byte{3}, 10), make([]byte, 54)...)) {
		t.Errorf("Write keeps what is handed in: %x", b)
	}
}

// P0.3: an answer is new memory, spare room too.
func TestAnswersAreNew(t *testing.T) {
	d, r := New(3), &ruled{n: 3}
	for i := range 3 {
		r.tell(t, d, told{fn: "write", at: i, b: []byte("abc")})
	}
	for i := range 3 {
		b, _ := d.Read(i)
		other, _ := d.Read(i)
		spoil(b[:cap(b)])
		if !bytes.HasPrefix(other, []byte("abc")) {
			t.Error("Read answers memory of another answer")
		}
		r.holdsTo(t, d)
	}
	l, other := d.Loose(), d.Loose()
	for i := range l[:cap(l)] {
		l[:cap(l)][i] = 99
	}
	if !slices.Equal(other, []int{0, 1, 2}) {
		t.Error("Loose answers memory of another answer")
	}
	r.holdsTo(t, d)
}

// spoil writes into all of b.
func spoil(b []byte) {
	for i := range b {
		b[i] = 0xee
	}
}

// P11.1: a device of the greatest length, each sector of its own.
func TestLargest(t *testing.T) {
	d := New(math.MaxInt)
	for i := d.Len() - 1; i >= 0; i-- {
		if err := d.Write(i, []byte{byte(i), byte(i >> 8), 1}); err != api.OK {
			t.Fatalf("Write(%d): %v", i, err)
		}
		if i == 1025 {
			d.Flush()
		}
	}
	if l := d.Loose(); len(l) != 1025 || l[0] != 0 || l[1024] != 1024 || !slices.IsSorted(l) {
		t.Errorf("Loose: %d sectors", len(l))
	}
	c := d.Crash(slices.Repeat([]bool{false, true}, 1024)...)
	for i := range c.Len() {
		b, _ := c.Read(i)
		want := []byte{byte(i), byte(i >> 8), 1}
		if i <= 1024 && i%2 == 0 {
			want = make([]byte, 3)
		}
		if !bytes.Equal(b[:3], want) {
			t.Fatalf("behind a crash %d holds %x, not %x", i, b[:3], want)
		}
	}
}
