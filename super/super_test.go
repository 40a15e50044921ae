package super

import (
	"bytes"
	"hash/crc32"
	"math"
	"slices"
	"strings"
	"testing"

	"loess/api"
	"loess/dev"
)

// state is what a Super holds, by the promise's own words; turn 0: nothing was made.
type state struct {
	text string
	turn int64
}

// next answers the state behind a Save that was OK.
func (w state) next(text string) state {
	return state{text, w.turn + 1}
}

// of answers what s holds.
func of(s *Super) state {
	return state{string(s.Text()), s.Turn()}
}

// opened answers what Open finds.
func opened(d *dev.Dev, at int) (state, api.Errno) {
	s, err := Open(d, at)
	return of(s), err
}

// made answers a Super of w.turn texts, the last one of them w.text, on the sectors at and at + 1 of d.
func made(t *testing.T, d *dev.Dev, at int, w state) *Super {
	t.Helper()
	s, err := Make(d, at, []byte(textOf(1, w)))
	for k := int64(2); err == api.OK && k <= w.turn; k++ {
		err = s.Save([]byte(textOf(k, w)))
	}
	if err != api.OK || of(s) != w {
		t.Fatalf("%v: %v, %v", w, of(s), err)
	}
	return s
}

// textOf answers the k-th of the texts that lead to w.
func textOf(k int64, w state) string {
	if k == w.turn {
		return w.text
	}
	return strings.Repeat("o", int(k))
}

// isHeld holds what s tells, and what is found on its device behind a crash and without one, against w.
func isHeld(t *testing.T, s *Super, d *dev.Dev, at int, w state) {
	t.Helper()
	if of(s) != w {
		t.Fatalf("it holds %v, not %v", of(s), w)
	}
	if l := d.Loose(); len(l) != 0 {
		t.Fatalf("%v: not flushed: %v", w, l)
	}
	for _, c := range []*dev.Dev{d, d.Crash(), d.Crash(true, true)} {
		if got, err := opened(c, at); got != w || err != api.OK {
			t.Fatalf("Open: %v, %v, not %v", got, err, w)
		}
	}
}

// sector answers what the sector i of d holds.
func sector(t *testing.T, d *dev.Dev, i int) []byte {
	t.Helper()
	b, err := d.Read(i)
	if err != api.OK {
		t.Fatalf("Read(%d): %v", i, err)
	}
	return b
}

// fill writes all sectors of d full of c.
func fill(t *testing.T, d *dev.Dev, c byte) {
	t.Helper()
	for i := range d.Len() {
		if err := d.Write(i, bytes.Repeat([]byte{c}, api.Sector)); err != api.OK {
			t.Fatalf("Write(%d): %v", i, err)
		}
	}
	if err := d.Flush(); err != api.OK {
		t.Fatalf("Flush: %v", err)
	}
}

// draw answers a number below n by a short rule, the same ones in each run.
func draw(x *uint64, n int) int {
	*x ^= *x << 13
	*x ^= *x >> 7
	*x ^= *x << 17
	return int(*x >> 33 % uint64(n))
}

// drawn answers a text of up to n bytes, any.
func drawn(x *uint64, n int) string {
	b := make([]byte, draw(x, n+1))
	for i := range b {
		b[i] = byte(draw(x, 256))
	}
	return string(b)
}

// P12.1: texts of all lengths, made and saved, are what Text and Open tell, at once.
func TestLengths(t *testing.T) {
	for n := range 41 {
		for _, c := range []string{"x", "\x00", "\xff"} {
			text := strings.Repeat(c, n)
			d := dev.New(2)
			s, err := Make(d, 0, []byte(text))
			if err != api.OK {
				t.Fatalf("Make of %d bytes: %v", n, err)
			}
			isHeld(t, s, d, 0, state{text, 1})
			other := strings.Repeat("y", 40-n)
			for turn, x := range []string{other, text, text, other} {
				if err := s.Save([]byte(x)); err != api.OK {
					t.Fatalf("Save of %d bytes: %v", len(x), err)
				}
				isHeld(t, s, d, 0, state{x, int64(turn) + 2})
			}
		}
	}
}

// P12.1: just the sectors at and at + 1 are written, and there is a Super at each place where both are the device's.
func TestPlaces(t *testing.T) {
	for _, n := range []int{2, 3, 5, 8} {
		for at := range n - 1 {
			d := dev.New(n)
			fill(t, d, 0xab)
			s := made(t, d, at, state{"one", 1})
			isHeld(t, s, d, at, state{"one", 1})
			if s.Save([]byte("two")) != api.OK || s.Save([]byte("three")) != api.OK {
				t.Fatal("Save")
			}
			isHeld(t, s, d, at, state{"three", 3})
			for i := range n {
				if i != at && i != at+1 && !bytes.Equal(sector(t, d, i), bytes.Repeat([]byte{0xab}, api.Sector)) {
					t.Errorf("at %d: the sector %d is written", at, i)
				}
			}
		}
	}
	d := dev.New(math.MaxInt)
	isHeld(t, made(t, d, d.Len()-2, state{"last", 7}), d, d.Len()-2, state{"last", 7})
}

// P12.1: Supers on one device do not touch one another.
func TestNeighbours(t *testing.T) {
	d := dev.New(6)
	var l [3]*Super
	var w [3]state
	for i := range l {
		w[i] = state{strings.Repeat("n", i), 1}
		l[i] = made(t, d, 2*i, w[i])
	}
	x := uint64(88172645463325252)
	for range 300 {
		i := draw(&x, 3)
		w[i] = w[i].next(drawn(&x, 40))
		if err := l[i].Save([]byte(w[i].text)); err != api.OK {
			t.Fatalf("Save: %v", err)
		}
		for k := range l {
			isHeld(t, l[k], d, 2*k, w[k])
		}
	}
}

// P12.1: Make lays both sectors: each of them holds the text by itself.
func TestMakeLaysBoth(t *testing.T) {
	for turns := range int64(5) {
		for lost := range 2 {
			d := dev.New(4)
			if turns > 0 {
				made(t, d, 1, state{"old", turns})
			}
			made(t, d, 1, state{"new", 1})
			d.Write(1+lost, make([]byte, api.Sector))
			if got, err := opened(d, 1); got != (state{"new", 1}) || err != api.OK {
				t.Errorf("behind %d turns, without the sector %d: %v, %v", turns, lost, got, err)
			}
		}
	}
}

// P12.1: Make begins anew, whatever turn the one ahead of it had.
func TestMakeAnew(t *testing.T) {
	d := dev.New(3)
	for turns := range int64(12) {
		s := made(t, d, 1, state{"old", turns + 1})
		isHeld(t, s, d, 1, state{"old", turns + 1})
		for k, text := range []string{"new", "newer", "newest"} {
			if k == 0 {
				s = made(t, d, 1, state{text, 1})
			} else if err := s.Save([]byte(text)); err != api.OK {
				t.Fatalf("Save: %v", err)
			}
			isHeld(t, s, d, 1, state{text, int64(k) + 1})
		}
	}
}

// wrongPlaces are those on a device of n sectors of which one of two is none.
func wrongPlaces(n int) []int {
	return []int{-1, -2, -64, math.MinInt, math.MinInt + 1, n - 1, n, n + 1, 4096, 1 << 32, math.MaxInt - 1, math.MaxInt}
}

// P12.1: ErrRange, of Make and Open, and nothing is written.
func TestWrongPlaces(t *testing.T) {
	for _, n := range []int{1, 2, 5, 2048} {
		d := dev.New(n)
		if n > 1 {
			made(t, d, n-2, state{"there", 3})
		}
		calls := d.Calls()
		for _, at := range wrongPlaces(n) {
			if s, err := Make(d, at, []byte("x")); s != nil || err != api.ErrRange {
				t.Errorf("Make at %d of %d: %v", at, n, err)
			}
			if s, err := Open(d, at); s != nil || err != api.ErrRange {
				t.Errorf("Open at %d of %d: %v", at, n, err)
			}
		}
		if d.Calls() != calls {
			t.Errorf("of %d sectors some were written", n)
		}
	}
}

// P12.1: a text of more than 40 bytes is ErrForm, and changes nothing.
func TestTooLong(t *testing.T) {
	for _, n := range []int{41, 42, 64, 65, 255, 256, 257, 296, 100000} {
		long := make([]byte, n)
		d := dev.New(3)
		if s, err := Make(d, 0, long); s != nil || err != api.ErrForm || d.Calls() != 0 {
			t.Errorf("Make of %d bytes: %v", n, err)
		}
		s := made(t, d, 0, state{"short", 2})
		calls := d.Calls()
		if err := s.Save(long); err != api.ErrForm || d.Calls() != calls {
			t.Errorf("Save of %d bytes: %v", n, err)
		}
		if s, err := Make(d, 0, long); s != nil || err != api.ErrForm || d.Calls() != calls {
			t.Errorf("Make of %d bytes: %v", n, err)
		}
		isHeld(t, s, d, 0, state{"short", 2})
	}
}

// P12.1: the errors stand in the order in which they are told: ErrForm, ErrRange, the device's.
func TestOrderOfErrors(t *testing.T) {
	long := make([]byte, 41)
	dead := dev.New(3)
	s := made(t, dead, 0, state{"x", 1})
	dead.Fuse(0)
	for _, d := range []*dev.Dev{dev.New(3), dead, nil} {
		for _, at := range wrongPlaces(3) {
			if _, err := Make(d, at, long); err != api.ErrForm {
				t.Errorf("a long text at %d: %v", at, err)
			}
			if _, err := Make(d, at, nil); err != api.ErrRange {
				t.Errorf("at %d: %v", at, err)
			}
			if _, err := Open(d, at); err != api.ErrRange {
				t.Errorf("Open at %d: %v", at, err)
			}
		}
	}
	if _, err := Make(dead, 0, long); err != api.ErrForm {
		t.Errorf("a long text on a dead device: %v", err)
	}
	if err := s.Save(long); err != api.ErrForm {
		t.Errorf("Save of a long text on a dead device: %v", err)
	}
	if none, err := Make(dead, 0, nil); none != nil || err != api.ErrDown {
		t.Errorf("Make on a dead device: %v", err)
	}
	if err := s.Save(nil); err != api.ErrDown {
		t.Errorf("Save on a dead device: %v", err)
	}
}

// P12.1: no sector of no device is there.
func TestNoDevice(t *testing.T) {
	if s, err := Make(nil, 0, nil); s != nil || err != api.ErrRange {
		t.Errorf("Make: %v", err)
	}
	if s, err := Open(nil, 0); s != nil || err != api.ErrRange {
		t.Errorf("Open: %v", err)
	}
}

// P12.1: ErrCorrupt of sectors on which no text was left.
func TestCorrupt(t *testing.T) {
	x := uint64(362436069)
	for k := range 2000 {
		d := dev.New(2)
		for i := range 2 {
			b := bytes.Repeat([]byte{byte(k)}, api.Sector)
			if k >= 256 {
				b = []byte(drawn(&x, api.Sector))
			}
			d.Write(i, b)
		}
		if s, err := Open(d, 0); s != nil || err != api.ErrCorrupt {
			t.Fatalf("%x: Open: %v, %v", sector(t, d, 0), of(s), err)
		}
		// What stood there is no hindrance.
		isHeld(t, made(t, d, 0, state{"x", 2}), d, 0, state{"x", 2})
	}
}

// flipped answers a crash of d with one bit turned over in the sector i.
func flipped(t *testing.T, d *dev.Dev, i, bit int) *dev.Dev {
	t.Helper()
	c := d.Crash(true)
	b := sector(t, c, i)
	b[bit/8] ^= 1 << (bit % 8)
	c.Write(i, b)
	return c
}

// P12.1: a sector of which one bit was turned over holds no text; the other one's is told, and ErrCorrupt where that is gone too.
func TestFlippedBits(t *testing.T) {
	for _, turns := range []int64{1, 2, 3} {
		d := dev.New(2)
		made(t, d, 0, state{"told last", turns})
		older := state{"told last", 1}
		if turns > 1 {
			older = state{strings.Repeat("o", int(turns)-1), turns - 1}
		}
		for bit := range 8 * api.Sector {
			var got []state
			for i := range 2 {
				w, err := opened(flipped(t, d, i, bit), 0)
				if err != api.OK {
					t.Fatalf("bit %d of the sector %d: %v", bit, i, err)
				}
				got = append(got, w)
			}
			slices.SortFunc(got, func(a, b state) int { return int(a.turn - b.turn) })
			if got[0] != older || got[1] != (state{"told last", turns}) {
				t.Fatalf("bit %d: %v", bit, got)
			}
			if s, err := Open(flipped(t, flipped(t, d, 0, bit), 1, bit), 0); s != nil || err != api.ErrCorrupt {
				t.Fatalf("bit %d of both: %v, %v", bit, of(s), err)
			}
		}
	}
}

// sealed answers a sector with its sum set right.
func sealed(b []byte) []byte {
	sum := crc32.ChecksumIEEE(b[4:])
	for i := range 4 {
		b[i] = byte(sum >> (8 * i))
	}
	return b
}

// P0.1, P0.6, P12.1: a sector with a sum that is right holds a text just if Make or Save could have left it.
func TestForged(t *testing.T) {
	for _, c := range []struct {
		turn int64
		n    byte
		far  int // a byte behind the text that is not nought
		ok   bool
	}{
		{1, 0, 0, true}, {1, 40, 0, true}, {2, 7, 0, true}, {1 << 31, 3, 0, true}, {1 << 40, 3, 0, true},
		{0, 3, 0, false}, {-1, 3, 0, false}, {math.MinInt64, 3, 0, false}, {1<<40 + 1, 3, 0, false}, {math.MaxInt64, 3, 0, false},
		{1, 41, 0, false}, {1, 51, 0, false}, {1, 52, 0, false}, {1, 128, 0, false}, {1, 255, 0, false},
		{1, 0, 13, false}, {1, 3, 16, false}, {1, 39, 52, false}, {1, 40, 53, false}, {1, 3, 63, false},
	} {
		b := make([]byte, api.Sector)
		for i := range 8 {
			b[4+i] = byte(uint64(c.turn) >> (8 * i))
		}
		b[12] = c.n
		if c.far > 0 {
			b[c.far] = 1
		}
		d := dev.New(2)
		d.Write(1, sealed(b))
		s, err := Open(d, 0)
		if !c.ok {
			if s != nil || err != api.ErrCorrupt {
				t.Errorf("%+v: %v, %v", c, of(s), err)
			}
			continue
		}
		w := state{string(make([]byte, c.n)), c.turn}
		if err != api.OK || of(s) != w {
			t.Fatalf("%+v: %v, %v", c, of(s), err)
		}
		if err := s.Save([]byte("next")); err != api.OK || of(s) != w.next("next") {
			t.Errorf("%+v: Save: %v, %v", c, of(s), err)
		}
	}
}

// keeps are all ways to keep some of up to three loose sectors.
func keeps() [][]bool {
	var l [][]bool
	for k := range 8 {
		l = append(l, []bool{k&1 == 1, k&2 == 2, k&4 == 4})
	}
	return append(l, nil, []bool{true}, []bool{false, true})
}

// P12.1: behind a crash in a Save, at any call and whatever stays, it holds the text ahead of it or the one of it; and so on from there.
func TestCrashInSave(t *testing.T) {
	texts := []string{"", "a", strings.Repeat("b", 40), "cc", strings.Repeat("d", 39), "e"}
	for turns := int64(1); turns <= 3; turns++ {
		d := dev.New(4)
		made(t, d, 1, state{"first", turns})
		crashInSave(t, d, state{"first", turns}, texts)
	}
}

// crashInSave saves the first one of texts on crashes of d, dying at each call, and the others on what is left.
func crashInSave(t *testing.T, d *dev.Dev, w state, texts []string) {
	t.Helper()
	if len(texts) == 0 {
		return
	}
	next := w.next(texts[0])
	for fuse := 0; ; fuse++ {
		c := d.Crash()
		s, err := Open(c, 1)
		if err != api.OK || of(s) != w {
			t.Fatalf("Open: %v, %v, not %v", of(s), err, w)
		}
		c.Fuse(fuse)
		if s.Save([]byte(next.text)) == api.OK {
			if of(s) != next || len(c.Loose()) != 0 {
				t.Fatalf("fuse %d: %v, loose %v", fuse, of(s), c.Loose())
			}
			crashInSave(t, c, next, texts[1:])
			return
		}
		if of(s) != w || s.Save(nil) != api.ErrDown || s.Save([]byte(next.text)) != api.ErrDown || of(s) != w {
			t.Fatalf("fuse %d: behind an error it is not as it was: %v", fuse, of(s))
		}
		var told []state
		for _, keep := range [][]bool{{false}, {true}} {
			got, err := opened(c.Crash(keep...), 1)
			if err != api.OK || (got != w && got != next) {
				t.Fatalf("fuse %d, keep %v: %v, %v, not %v nor %v", fuse, keep, got, err, w, next)
			}
			if !slices.Contains(told, got) {
				told = append(told, got)
				crashInSave(t, c.Crash(keep...), got, texts[1:])
			}
		}
	}
}

// P12.1: other sectors of the device may be loose too; they are flushed with it, or stay what they are.
func TestCrashBesideLoose(t *testing.T) {
	for _, turns := range []int64{1, 2, 3, 4} {
		for fuse := range 4 {
			for _, keep := range keeps() {
				d := dev.New(4)
				w := state{"first", turns}
				s := made(t, d, 1, w)
				d.Write(0, bytes.Repeat([]byte{1}, api.Sector))
				d.Write(3, bytes.Repeat([]byte{2}, api.Sector))
				d.Fuse(fuse)
				err := s.Save([]byte("second"))
				if (err == api.OK) != (of(s) == w.next("second")) || (err != api.OK && err != api.ErrDown) {
					t.Fatalf("Save: %v, %v", of(s), err)
				}
				got, e := opened(d.Crash(keep...), 1)
				if e != api.OK || (got != w && got != w.next("second")) || (err == api.OK && got == w) {
					t.Fatalf("turn %d, fuse %d, keep %v: %v, %v", turns, fuse, keep, got, e)
				}
			}
		}
	}
}

// P12.1: a text that stands on one sector alone is not written over: it is found whatever happens to the other sector.
func TestOneSectorLeft(t *testing.T) {
	for _, turns := range []int64{1, 2, 3} {
		for lost := range 2 {
			d := dev.New(2)
			made(t, d, 0, state{"first", turns})
			d.Write(lost, bytes.Repeat([]byte{0x55}, api.Sector))
			d.Flush()
			s, err := Open(d, 0)
			if err != api.OK {
				t.Fatalf("Open: %v", err)
			}
			w, whole := of(s), sector(t, d, 1-lost)
			d.Fuse(1)
			if s.Save([]byte("second")) != api.ErrDown || !bytes.Equal(sector(t, d, 1-lost), whole) {
				t.Errorf("turn %d, without the sector %d: the other one is written over", turns, lost)
			}
			for _, keep := range keeps() {
				if got, err := opened(d.Crash(keep...), 0); err != api.OK || (got != w && got != w.next("second")) {
					t.Errorf("turn %d, without the sector %d, keep %v: %v, %v", turns, lost, keep, got, err)
				}
			}
		}
	}
}

// P12.1: the device's errors of a Make; behind a crash in it there is what was there, or what it makes, but no older text.
func TestCrashInMake(t *testing.T) {
	for turns := range int64(5) {
		old := state{}
		d := dev.New(2)
		if turns > 0 {
			old = state{"old", turns}
			made(t, d, 0, old)
		}
		for fuse := 0; ; fuse++ {
			c := d.Crash()
			c.Fuse(fuse)
			s, err := Make(c, 0, []byte("new"))
			if err == api.OK {
				isHeld(t, s, c, 0, state{"new", 1})
				break
			}
			if s != nil || err != api.ErrDown {
				t.Fatalf("Make with fuse %d: %v", fuse, err)
			}
			for _, keep := range keeps() {
				got, err := opened(c.Crash(keep...), 0)
				if got != old && got != (state{"new", 1}) || (err == api.OK) != (got.turn > 0) {
					t.Errorf("behind %d turns, fuse %d, keep %v: %v, %v", turns, fuse, keep, got, err)
				}
			}
			again := c.Crash(true, true)
			isHeld(t, made(t, again, 0, state{"more", 2}), again, 0, state{"more", 2})
		}
	}
}

// P12.1: Open writes nothing, and is no more than a look, of a dead device too.
func TestOpenWritesNothing(t *testing.T) {
	d := dev.New(3)
	w := state{"there", 4}
	made(t, d, 1, w)
	calls := d.Calls()
	for range 3 {
		if got, err := opened(d, 1); got != w || err != api.OK || d.Calls() != calls {
			t.Errorf("Open: %v, %v", got, err)
		}
		if _, err := Open(d, 1); err != api.OK || len(d.Loose()) != 0 {
			t.Errorf("Open: %v", err)
		}
	}
	d.Fuse(0)
	s, err := Open(d, 1)
	if err != api.OK || of(s) != w || s.Save(nil) != api.ErrDown || of(s) != w {
		t.Errorf("Open of a dead device: %v, %v", of(s), err)
	}
}

// P12.1: long runs of all calls, and crashes between and within them.
func TestLongRuns(t *testing.T) {
	x := uint64(88172645463325252)
	for range 60 {
		d := dev.New(4)
		w := state{drawn(&x, 40), 1}
		s := made(t, d, 2, w)
		for range 60 {
			text := drawn(&x, 42)
			switch k := draw(&x, 12); {
			case k == 0:
				d = d.Crash(draw(&x, 2) == 0)
				s, _ = Open(d, 2)
			case k == 1 && len(text) <= 40:
				w = state{text, 1}
				s = made(t, d, 2, w)
			case k <= 4 && len(text) <= 40:
				d.Fuse(draw(&x, 2))
				if err := s.Save([]byte(text)); err != api.ErrDown || of(s) != w {
					t.Fatalf("Save on a dying device: %v, %v, not %v", err, of(s), w)
				}
				d = d.Crash(draw(&x, 2) == 0)
				s, _ = Open(d, 2)
				if of(s) == w.next(text) {
					w = w.next(text)
				}
			default:
				err := s.Save([]byte(text))
				if (err == api.OK) != (len(text) <= 40) || (err != api.OK && err != api.ErrForm) {
					t.Fatalf("Save of %d bytes: %v", len(text), err)
				}
				if err == api.OK {
					w = w.next(text)
				}
			}
			isHeld(t, s, d, 2, w)
		}
	}
}

// P12.1: turns of more than one and two bytes.
func TestManyTurns(t *testing.T) {
	d := dev.New(2)
	s := made(t, d, 0, state{"", 1})
	for turn := int64(2); turn < 70000; turn++ {
		if err := s.Save([]byte{byte(turn), byte(turn >> 8)}); err != api.OK || s.Turn() != turn {
			t.Fatalf("turn %d: %d, %v", turn, s.Turn(), err)
		}
		if got, err := opened(d, 0); got != (state{string([]byte{byte(turn), byte(turn >> 8)}), turn}) || err != api.OK {
			t.Fatalf("turn %d: Open: %v, %v", turn, got, err)
		}
	}
}

// P12.1: a nil *Super; and one that neither Make nor Open answered.
func TestNil(t *testing.T) {
	var none *Super
	for _, s := range []*Super{none, {}} {
		for _, b := range [][]byte{nil, {}, []byte("x"), make([]byte, 40)} {
			if err := s.Save(b); err != api.ErrDown {
				t.Errorf("Save: %v", err)
			}
		}
		if of(s) != (state{}) {
			t.Errorf("it holds %v", of(s))
		}
	}
	if err := none.Save(make([]byte, 41)); err != api.ErrDown {
		t.Errorf("Save of a long text: %v", err)
	}
}

// P0.4: a nil text is as an empty one.
func TestNilText(t *testing.T) {
	for _, b := range [][]byte{nil, {}, make([]byte, 0, 50)} {
		d := dev.New(2)
		s, err := Make(d, 0, b)
		if err != api.OK {
			t.Fatalf("Make: %v", err)
		}
		isHeld(t, s, d, 0, state{"", 1})
		if s.Save([]byte("x")) != api.OK || s.Save(b) != api.OK {
			t.Fatal("Save")
		}
		isHeld(t, s, d, 0, state{"", 3})
	}
}

// P0.3: what is handed in stays, its spare room too, and none of it is kept.
func TestArgumentsStay(t *testing.T) {
	d := dev.New(2)
	var s *Super
	for _, lay := range []func(b []byte) api.Errno{
		func(b []byte) (err api.Errno) { s, err = Make(d, 0, b); return err },
		func(b []byte) api.Errno { return s.Save(b) },
		func(b []byte) api.Errno { return s.Save(b) },
	} {
		room := bytes.Repeat([]byte{7}, 100)
		if err := lay(room[:10]); err != api.OK {
			t.Fatalf("%v", err)
		}
		if !bytes.Equal(room, bytes.Repeat([]byte{7}, 100)) {
			t.Error("what is handed in is changed")
		}
		clear(room)
		isHeld(t, s, d, 0, state{strings.Repeat("\x07", 10), s.Turn()})
	}
}

// P0.3: an answer is new memory, spare room too.
func TestAnswersAreNew(t *testing.T) {
	d := dev.New(2)
	kept := made(t, d, 0, state{"text", 2})
	found, err := Open(d, 0)
	if err != api.OK {
		t.Fatalf("Open: %v", err)
	}
	for _, s := range []*Super{kept, found} {
		b, other := s.Text(), s.Text()
		b = b[:cap(b)]
		for i := range b {
			b[i] = 0xee
		}
		if string(other) != "text" {
			t.Error("Text answers memory of another answer")
		}
		isHeld(t, s, d, 0, state{"text", 2})
	}
}

// P0.5: the same calls, the same answers, and the same bytes.
func TestRepeats(t *testing.T) {
	var first []byte
	for range 3 {
		d := dev.New(2)
		s := made(t, d, 0, state{"a", 1})
		if s.Save([]byte("bb")) != api.OK || s.Save([]byte("c")) != api.OK || s.Save(make([]byte, 99)) != api.ErrForm {
			t.Fatal("Save")
		}
		isHeld(t, s, d, 0, state{"c", 3})
		all := append(sector(t, d, 0), sector(t, d, 1)...)
		if first == nil {
			first = all
		}
		if !bytes.Equal(all, first) {
			t.Error("the same calls leave other bytes")
		}
	}
}
