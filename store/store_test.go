package store

import (
	"bytes"
	"fmt"
	"maps"
	"math"
	"slices"
	"strings"
	"testing"

	"loess/api"
	"loess/dev"
	"loess/dir"
	"loess/extent"
	"loess/super"
)

// files are what a store holds, by the promises' own words.
type files map[string]string

// after answers w behind l, done in order.
func (w files) after(l []Put) files {
	next := maps.Clone(w)
	for _, p := range l {
		if p.Gone {
			delete(next, p.Name)
		} else {
			next[p.Name] = string(p.B)
		}
	}
	return next
}

// size answers how many sectors the files of w take.
func (w files) size() int {
	n := 0
	for _, s := range w {
		n += need(len(s))
	}
	return n
}

// need answers how many sectors n bytes take.
func need(n int) int {
	k := 0
	for ; n > 0; n -= 64 {
		k++
	}
	return k
}

// error answers what is wrong with l, that finds a store of w, as far as it does not hang on room.
func (w files) error(l []Put) api.Errno {
	for _, p := range l {
		if len(p.Name) == 0 || len(p.Name) > 20 {
			return api.ErrForm
		}
	}
	for _, p := range l {
		if len(p.B) > 65536 {
			return api.ErrLarge
		}
	}
	if len(w.after(l)) > 32 {
		return api.ErrLarge
	}
	return api.OK
}

func lay(name, s string) Put { return Put{Name: name, B: []byte(s)} }

func gone(name string) Put { return Put{Name: name, Gone: true} }

// blocks answers bytes of n whole sectors, each of which is told from the others.
func blocks(n int) string {
	var b strings.Builder
	for i := range n {
		fmt.Fprintf(&b, "%-64d", i)
	}
	return b.String()
}

// held answers what s tells of its files.
func held(t *testing.T, s *Store) files {
	t.Helper()
	w := files{}
	last := ""
	for _, name := range s.Names() {
		if name <= last {
			t.Fatalf("Names: %q behind %q", name, last)
		}
		b, err := s.Get(name)
		if err != api.OK {
			t.Fatalf("Get(%q): %v", name, err)
		}
		w[name] = string(b)
		last = name
	}
	return w
}

// kit is a store, the device it is on, and what it should hold; first is what was free when it was made.
type kit struct {
	*Store
	d     *dev.Dev
	w     files
	first int
}

// made answers a store without files on a device of n sectors.
func made(t *testing.T, n int) *kit {
	t.Helper()
	d := dev.New(n)
	s, err := Make(d)
	if err != api.OK {
		t.Fatalf("Make: %v", err)
	}
	k := &kit{s, d, files{}, s.Free()}
	k.check(t)
	return k
}

// check holds what k's store tells, and what is found on its device behind a crash and without one, against what it should hold.
func (k *kit) check(t *testing.T) {
	t.Helper()
	if got := held(t, k.Store); !maps.Equal(got, k.w) {
		t.Fatalf("it holds %v, not %v", got, k.w)
	}
	k.checkFree(t)
	if k.Down() {
		return
	}
	if l := k.d.Loose(); len(l) > 0 {
		t.Fatalf("it does not last: %v", l)
	}
	k.checkOpen(t, k.d, k.w)
	k.checkOpen(t, k.d.Crash(), k.w)
}

// checkFree holds Free against the promise: beside the files the list takes two sectors more than at first, with three files or fewer one.
func (k *kit) checkFree(t *testing.T) {
	t.Helper()
	more := 2
	if len(k.w) <= 3 {
		more = 1
	}
	most := k.first - k.w.size()
	if free := k.Free(); free > most || free < most-more || free < 0 {
		t.Fatalf("of %d files %d sectors are free, not %d to %d", len(k.w), free, most-more, most)
	}
}

// checkOpen opens d, which is to hold w, and answers the store.
func (k *kit) checkOpen(t *testing.T, d *dev.Dev, w files) *Store {
	t.Helper()
	calls := d.Calls()
	o, err := Open(d)
	if err != api.OK || d.Calls() != calls || len(d.Loose()) > 0 || o.Down() {
		t.Fatalf("Open: %v, %d calls", err, d.Calls()-calls)
	}
	if got := held(t, o); !maps.Equal(got, w) {
		t.Fatalf("Open: %v, not %v", got, w)
	}
	if maps.Equal(w, k.w) && o.Free() != k.Free() {
		t.Fatalf("Open: %d are free, not %d", o.Free(), k.Free())
	}
	return o
}

// apply does l, holds what it answers against the promises, and answers it.
func (k *kit) apply(t *testing.T, l ...Put) api.Errno {
	t.Helper()
	calls, free := k.d.Calls(), k.Free()
	empty := !slices.ContainsFunc(l, func(p Put) bool { return !p.Gone && len(p.B) > 0 })
	err := k.Apply(l)
	want := k.w.error(l)
	switch {
	case err == api.OK && want == api.OK:
		k.w = k.w.after(l)
	case err != want && (err != api.ErrSpace || want != api.OK):
		t.Fatalf("Apply: %v, not %v", err, want)
	case err == api.ErrSpace && empty && free >= 16:
		t.Fatalf("Apply: ErrSpace, though %d are free", free)
	case k.d.Calls() != calls || k.Free() != free:
		t.Fatalf("Apply: %v, though something is written", err)
	}
	k.check(t)
	return err
}

// is does l, which is to answer want.
func (k *kit) is(t *testing.T, want api.Errno, l ...Put) {
	t.Helper()
	if err := k.apply(t, l...); err != want {
		t.Fatalf("Apply: %v, not %v", err, want)
	}
}

// draw answers a number below n by a short rule, the same ones in each run.
func draw(x *uint64, n int) int {
	*x ^= *x << 13
	*x ^= *x >> 7
	*x ^= *x << 17
	return int(*x >> 33 % uint64(n))
}

// drawn answers n bytes, any.
func drawn(x *uint64, n int) string {
	b := make([]byte, n)
	for i := range b {
		b[i] = byte(draw(x, 256))
	}
	return string(b)
}

// long answers n names of 20 bytes.
func long(n int) []string {
	var l []string
	for i := range n {
		l = append(l, fmt.Sprintf("%s%02d", strings.Repeat("n", 18), i))
	}
	return l
}

// P15.1: Make lays no files; ErrRange of a device that is too small, ahead of its own errors.
func TestMake(t *testing.T) {
	for _, n := range []int{64, 65, 100, 128, 2047, 2048} {
		k := made(t, n)
		if k.Free() > n || k.Down() || len(k.Names()) != 0 {
			t.Errorf("of %d sectors: %d are free, %v", n, k.Free(), k.Names())
		}
	}
	for _, n := range []int{1, 2, 3, 16, 62, 63} {
		d := dev.New(n)
		for range 2 {
			if s, err := Make(d); s != nil || err != api.ErrRange || d.Calls() != 0 {
				t.Errorf("of %d sectors: %v", n, err)
			}
			d.Fuse(0)
		}
	}
	if s, err := Make(nil); s != nil || err != api.ErrRange {
		t.Errorf("of no device: %v", err)
	}
	d := dev.New(64)
	d.Fuse(0)
	if s, err := Make(d); s != nil || err != api.ErrDown {
		t.Errorf("of a dead device: %v", err)
	}
}

// P15.1: what stood there is no hindrance, and none of it is left.
func TestMakeAnew(t *testing.T) {
	k := made(t, 80)
	for turn := range 6 {
		for i := range turn {
			k.is(t, api.OK, lay("a", fmt.Sprint(i)), lay(fmt.Sprint("b", i), blocks(i)))
		}
		s, err := Make(k.d)
		if err != api.OK || s.Free() != k.first {
			t.Fatalf("behind %d turns: %v", turn, err)
		}
		k.Store, k.w = s, files{}
		k.check(t)
	}
	x := uint64(88172645463325252)
	d := dev.New(70)
	for i := range d.Len() {
		d.Write(i, []byte(drawn(&x, 64)))
	}
	s, err := Make(d)
	if err != api.OK {
		t.Fatalf("on any bytes: %v", err)
	}
	k = &kit{s, d, files{}, s.Free()}
	k.is(t, api.OK, lay("a", "one"))
}

// P15.1: files come, change and go, in order and all at once.
func TestApply(t *testing.T) {
	k := made(t, 64)
	for _, l := range [][]Put{
		{lay("b", "two"), lay("a", "one")},
		{gone("a"), lay("c", ""), gone("none")},
		{lay("b", "x"), lay("b", "yy"), lay("d", "1"), gone("d")},
		{gone("b"), lay("b", "again"), gone("e"), lay("e", blocks(3)), lay("e", "short")},
		{lay("b", "again")},
		{gone("none")},
		{gone("none"), gone("none")},
		{{Name: "c", Gone: true, B: []byte("of no weight")}},
		{lay("e", ""), lay("f", ""), lay("a", blocks(2)+"x")},
		{gone("a"), gone("b"), gone("c"), gone("d"), gone("e"), gone("f")},
		{lay("a", "one")},
	} {
		k.is(t, api.OK, l...)
	}
	want := files{"a": "one"}
	if !maps.Equal(k.w, want) {
		t.Errorf("%v", k.w)
	}
}

// P15.1: ErrNone of what is not there, whatever it is called, and nothing beside it.
func TestGetNone(t *testing.T) {
	k := made(t, 64)
	k.is(t, api.OK, lay("a", "one"), lay("b", ""), lay("c", "x"))
	k.is(t, api.OK, gone("c"))
	for _, name := range []string{"", "A", "aa", "a\x00", "c", "\xff", strings.Repeat("a", 20), strings.Repeat("a", 21), strings.Repeat("a", 1<<17)} {
		if b, err := k.Get(name); b != nil || err != api.ErrNone {
			t.Errorf("Get(%.30q): %q, %v", name, b, err)
		}
	}
	if b, err := k.Get("b"); len(b) != 0 || err != api.OK {
		t.Errorf("Get of an empty file: %q, %v", b, err)
	}
}

// P15.1: files of all lengths about the sectors' ends, and the longest.
func TestLengths(t *testing.T) {
	k := made(t, 2048)
	all := blocks(1025)
	var l []int
	for n := range 200 {
		l = append(l, n)
	}
	l = append(l, 4095, 4096, 4097, 8191, 8192, 8193, 16383, 16384, 65471, 65472, 65473, 65535, 65536)
	for _, n := range l {
		k.is(t, api.OK, lay("f", all[1:1+n]), lay("beside", all[:n/100]))
		k.is(t, api.OK, lay("f", ""), lay("beside", ""))
	}
	k.is(t, api.ErrLarge, lay("f", all[:65537]))
}

// P15.1: any name of 1 to 20 bytes, in the order of their bytes; ErrForm of others, though the file would be none.
func TestNames(t *testing.T) {
	k := made(t, 64)
	good := []string{
		"\x00", "\x00\x00", strings.Repeat("\x00", 20), "A", "a", "a\x00", "aa", strings.Repeat("n", 19), strings.Repeat("n", 20),
		"\u00e9", "\u2603\U0001f600", "\ufffd", "\xfe\xff", "\xff", strings.Repeat("\xff", 20),
	}
	for i := range good {
		k.is(t, api.OK, lay(good[(7*i+3)%len(good)], good[i]))
	}
	if got := k.Names(); !slices.Equal(got, good) {
		t.Errorf("%q", got)
	}
	for _, name := range []string{"", strings.Repeat("n", 21), strings.Repeat("\x00", 21), strings.Repeat("n", 256+1), strings.Repeat("n", 1<<16+1)} {
		k.is(t, api.ErrForm, lay(name, ""))
		k.is(t, api.ErrForm, gone(name))
		k.is(t, api.ErrForm, lay("x", "x"), lay(name, "x"), lay("y", "y"))
		k.is(t, api.ErrForm, lay("x", "x"), lay(name, "x"), gone(name))
	}
	for _, name := range good {
		k.is(t, api.OK, gone(name))
	}
}

// P15.1: at most 32 files, behind all of it, not within it.
func TestManyFiles(t *testing.T) {
	k := made(t, 64)
	var l []Put
	for _, name := range long(100) {
		l = append(l, lay(name, ""))
	}
	k.is(t, api.ErrLarge, l[:33]...)
	k.is(t, api.OK, l[:31]...)
	k.is(t, api.ErrLarge, l[31:33]...)
	k.is(t, api.OK, l[31])
	k.is(t, api.ErrLarge, l[32])
	k.is(t, api.OK, append(l[32:33:33], gone(l[0].Name))...)
	k.is(t, api.OK, append([]Put{gone(l[1].Name)}, l[0])...)
	// All hundred, of which but two go again.
	var back []Put
	for _, p := range l[:98] {
		back = append(back, gone(p.Name))
	}
	k.is(t, api.OK, append(slices.Clone(l), back...)...)
	if len(k.Names()) != 2 {
		t.Errorf("%q", k.Names())
	}
}

// P15.1: the errors stand in the order in which they are told, and each of them changes nothing.
func TestOrderOfErrors(t *testing.T) {
	k := made(t, 64)
	k.is(t, api.OK, lay("a", "one"), lay("b", blocks(20)))
	wrong, large, wide := lay("", "x"), lay("l", strings.Repeat("x", 65537)), lay("w", strings.Repeat("x", 65536))
	var many []Put
	for i := range 40 {
		many = append(many, lay(fmt.Sprint("m", i), ""))
	}
	k.is(t, api.ErrForm, large, wide, wrong)
	k.is(t, api.ErrForm, append(many, wrong)...)
	k.is(t, api.ErrForm, wrong, gone("a"))
	k.is(t, api.ErrLarge, wide, large)
	k.is(t, api.ErrLarge, large, gone("l"))
	k.is(t, api.ErrLarge, large, lay("l", "short"))
	k.is(t, api.ErrLarge, Put{Name: "a", Gone: true, B: large.B})
	k.is(t, api.ErrLarge, append(many, wide)...)
	k.is(t, api.ErrSpace, wide, gone("a"))
	k.is(t, api.OK, wide, gone("w"))
	k.is(t, api.OK, wide, lay("w", "short"), gone("a"))
}

// P15.2: an Apply of nothing is OK and writes nothing.
func TestNothing(t *testing.T) {
	k := made(t, 64)
	for range 2 {
		for _, l := range [][]Put{nil, {}, make([]Put, 0, 9)} {
			calls := k.d.Calls()
			k.is(t, api.OK, l...)
			if k.d.Calls() != calls {
				t.Error("something is written")
			}
		}
		k.is(t, api.OK, lay("a", "one"))
	}
}

// P15.1: all that is free there is for files, of one or of several; one more sector is ErrSpace.
func TestFull(t *testing.T) {
	for _, n := range []int{64, 65, 100, 500} {
		k := made(t, n)
		for turn := range 12 {
			free := k.Free()
			k.is(t, api.ErrSpace, lay("a", blocks(free)+"x"))
			k.is(t, api.ErrSpace, lay("a", blocks(free)), lay("b", "x"))
			part := 1 + turn*free/13
			k.is(t, api.OK, lay("b", blocks(part)), lay("a", blocks(free-part)))
			if k.Free() > 0 {
				t.Errorf("%d are free", k.Free())
			}
			k.is(t, api.ErrSpace, lay("c", "x"))
			k.is(t, api.OK, gone("a"), gone("b"), gone("c"))
		}
	}
}

// P15.1: the files that are there stay till all is written, so there has to be room for both.
func TestRoomForBoth(t *testing.T) {
	k := made(t, 80)
	half := k.Free() / 2
	k.is(t, api.OK, lay("a", blocks(half)))
	k.is(t, api.OK, lay("a", "x"+blocks(half)[1:]))
	k.is(t, api.OK, lay("a", blocks(1)))
	k.is(t, api.OK, lay("a", blocks(half+2)))
	k.is(t, api.ErrSpace, lay("a", blocks(half+2)))
	k.is(t, api.ErrSpace, gone("a"), lay("a", blocks(half+2)))
	k.is(t, api.ErrSpace, gone("a"), lay("b", blocks(half+2)))
	k.is(t, api.OK, gone("a"))
	k.is(t, api.OK, lay("b", blocks(half+2)))
}

// P15.1: what goes within one Apply takes no room, and the last B of a name alone is written.
func TestLastAlone(t *testing.T) {
	k := made(t, 64)
	wide := blocks(k.Free() - 1)
	k.is(t, api.OK, lay("a", wide), lay("b", wide), lay("b", "x"), lay("c", wide), gone("c"))
	k.is(t, api.OK, gone("a"))
	k.is(t, api.OK, lay("a", wide), gone("a"), lay("a", ""))
}

// P15.1: several files find room in the rows that are free, in whatever order they come.
func TestRowsOfSeveral(t *testing.T) {
	for _, c := range []struct{ rows, files []int }{
		{[]int{7, 5, 3}, []int{3, 5, 7}},
		{[]int{3, 5, 7}, []int{7, 5, 3}},
		{[]int{5, 7, 3}, []int{5, 3, 7}},
		{[]int{4, 3}, []int{1, 3, 3}},
		{[]int{3, 4}, []int{1, 3, 3}},
		{[]int{4, 3}, []int{2, 3, 2}},
		{[]int{3, 4}, []int{2, 2, 3}},
		{[]int{5, 8}, []int{1, 1, 8, 1, 1, 1}},
	} {
		k := made(t, 64)
		var l, away []Put
		for i, n := range c.rows {
			k.is(t, api.OK, lay(fmt.Sprint("row", i), blocks(n)))
			k.is(t, api.OK, lay(fmt.Sprint("between", i), "x"))
			away = append(away, gone(fmt.Sprint("row", i)))
		}
		k.is(t, api.OK, lay("behind", blocks(k.Free())))
		k.is(t, api.OK, away...)
		for i, n := range c.files {
			l = append(l, lay(fmt.Sprint("f", i), blocks(n)))
		}
		k.is(t, api.OK, l...)
		if free := k.Free(); free != 0 {
			t.Errorf("%v in %v: %d are free", c.files, c.rows, free)
		}
	}
}

// P15.1: files that come and go leave all the room there was, in one row.
func TestRoomComesBack(t *testing.T) {
	x := uint64(362436069)
	for range 30 {
		k := made(t, 64+draw(&x, 100))
		for range 40 {
			k.apply(t, lay(fmt.Sprint("f", draw(&x, 6)), blocks(draw(&x, k.first))))
		}
		for _, name := range k.Names() {
			k.is(t, api.OK, gone(name))
		}
		k.is(t, api.OK, lay("all", blocks(k.Free())))
	}
}

// P15.1, P15.2: as long as 16 sectors are free, wherever they are, no Apply of empty files and of files that go tells ErrSpace.
func TestSixteen(t *testing.T) {
	x := uint64(521288629)
	for range 25 {
		k := made(t, 64+draw(&x, 20))
		names := long(40)
		for step := range 150 {
			name := names[draw(&x, len(names))]
			var l []Put
			for range draw(&x, 4) {
				l = append(l, lay(names[draw(&x, len(names))], ""), gone(names[draw(&x, len(names))]))
			}
			if step%3 > 0 {
				l = []Put{lay(name, blocks(draw(&x, 3)))}
			}
			k.apply(t, l...)
		}
	}
}

// P15.1, P15.2: where just each second sector is free, the longest list finds room there.
func TestScattered(t *testing.T) {
	k := made(t, 64)
	names := long(32)
	var l, odd, empty []Put
	for i, name := range names {
		l = append(l, lay(name, blocks(1)))
		if i%2 == 1 {
			odd = append(odd, gone(name))
			empty = append(empty, lay(name, ""))
		}
	}
	k.is(t, api.OK, l...)
	k.is(t, api.OK, gone("none"))
	k.is(t, api.OK, odd...)
	// All the row behind them goes to one of the others, which leaves its own sector free beside one of those.
	k.is(t, api.OK, lay(names[0], blocks(18)))
	k.is(t, api.ErrSpace, lay(names[1], blocks(3)))
	for range 5 {
		if k.Free() < 16 || k.Free() > 17 {
			t.Fatalf("%d are free", k.Free())
		}
		k.is(t, api.OK, empty...)
		k.is(t, api.OK, odd...)
	}
}

// P15.1: the longest list there is, of files that are long too, takes no more than it may.
func TestLongestList(t *testing.T) {
	k := made(t, 2048)
	for i, name := range long(32) {
		n := 64*63 + 1
		if i == 0 {
			n = 1
		}
		k.is(t, api.OK, lay(name, strings.Repeat(fmt.Sprint(i%10), n)))
	}
	if n := len(dir.Encode(k.files)); n < 850 {
		t.Errorf("its list has %d bytes", n)
	}
	for _, name := range long(32) {
		k.is(t, api.OK, lay(name, ""))
	}
	k.is(t, api.OK, lay(long(32)[5], blocks(1024)))
}

// P15.1, P15.2: long runs of all that may be applied, with errors, on devices of many lengths, with an Open now and then.
func TestLongRuns(t *testing.T) {
	x := uint64(88172645463325252)
	for range 60 {
		k := made(t, 64+draw(&x, 150))
		names := append(long(30), "a", "b", "c", "\x00", "\xff", "", strings.Repeat("n", 21))
		names = names[draw(&x, 20):]
		for range 80 {
			var l []Put
			for range draw(&x, 6) {
				name := names[draw(&x, len(names)-2*min(1, draw(&x, 9)))]
				l = append(l, Put{Name: name, Gone: draw(&x, 3) == 0, B: []byte(drawn(&x, draw(&x, 300)))})
			}
			k.apply(t, l...)
			if draw(&x, 8) == 0 {
				k.d = k.d.Crash()
				k.Store = k.checkOpen(t, k.d, k.w)
			}
		}
	}
}

// keeps answers ways to keep some of the loose sectors of d: all ways of up to six, of more those that differ most, and some at large.
func keeps(d *dev.Dev, x *uint64) [][]bool {
	n := len(d.Loose())
	var l [][]bool
	if n <= 6 {
		for k := range 1 << n {
			keep := make([]bool, n)
			for i := range keep {
				keep[i] = k>>i&1 == 1
			}
			l = append(l, keep)
		}
		return l
	}
	for k := range n + 10 {
		some := make([]bool, n)
		others := make([]bool, n)
		for i := range n {
			some[i] = i < k
			if k > n {
				some[i] = draw(x, 2) == 0
			}
			others[i] = !some[i]
		}
		l = append(l, some, others)
	}
	return l
}

// crashed applies l on a device that dies at each call in turn, and hands on what is found behind each crash.
func crashed(t *testing.T, k *kit, l []Put, then func(k *kit)) {
	t.Helper()
	x := uint64(2463534242)
	next := k.w.after(l)
	for fuse := 0; ; fuse++ {
		c := &kit{d: k.d.Crash(), w: k.w, first: k.first}
		c.Store, _ = Open(c.d)
		c.check(t)
		free := c.Free()
		c.d.Fuse(fuse)
		err := c.Apply(l)
		if err == api.OK {
			c.w = next
			c.check(t)
			c.d = c.d.Crash()
			c.Store, _ = Open(c.d)
			then(c)
			return
		}
		if err != api.ErrDown || !c.Down() || c.Free() != free {
			t.Fatalf("fuse %d: %v", fuse, err)
		}
		c.check(t)
		for _, keep := range keeps(c.d, &x) {
			o := &kit{d: c.d.Crash(keep...), first: k.first}
			s, err := Open(o.d)
			if err != api.OK {
				t.Fatalf("fuse %d, keep %v: %v", fuse, keep, err)
			}
			o.Store, o.w = s, held(t, s)
			if !maps.Equal(o.w, k.w) && !maps.Equal(o.w, next) {
				t.Fatalf("fuse %d, keep %v: %v, not %v nor %v", fuse, keep, o.w, k.w, next)
			}
			o.check(t)
			then(o)
		}
	}
}

// P15.2: behind a crash at any call, whatever stays, there is all of an Apply or nothing of it, and the store goes on.
func TestCrashes(t *testing.T) {
	before := []Put{lay("a", "one"), lay("b", blocks(3)), lay("c", ""), lay("d", blocks(2)+"x")}
	for _, l := range [][]Put{
		{lay("a", "two")},
		{lay("a", blocks(4)), lay("b", "y"), gone("c"), lay("e", "new")},
		{gone("a")},
		{gone("a"), gone("b"), gone("c"), gone("d")},
		{gone("none")},
		{lay("c", "now"), lay("f", "")},
		{lay("a", "one")},
	} {
		k := made(t, 64)
		for _, from := range [][]Put{before, {lay("a", "three"), gone("d")}, l} {
			crashed(t, k, l, func(o *kit) { o.is(t, api.OK, lay("b", "behind"), lay("z", blocks(5))) })
			k.is(t, api.OK, from...)
		}
		crashed(t, k, l, func(o *kit) { o.is(t, api.OK, gone("b")) })
	}
}

// P15.2: crashes behind crashes.
func TestCrashesBehindCrashes(t *testing.T) {
	k := made(t, 64)
	k.is(t, api.OK, lay("a", "one"), lay("b", "two"))
	first := []Put{lay("a", blocks(1)), gone("b")}
	second := []Put{lay("b", "three"), lay("a", "")}
	crashed(t, k, first, func(o *kit) {
		crashed(t, o, second, func(o *kit) { o.is(t, api.OK, lay("c", "four"), gone("a")) })
	})
}

// P15.2: the same of a store that is full of files with long names.
func TestCrashesOfFull(t *testing.T) {
	k := made(t, 64)
	var l, swap []Put
	for i, name := range long(32) {
		l = append(l, lay(name, ""))
		if i%2 == 0 {
			swap = append(swap, lay(name, fmt.Sprint(i)), gone(long(32)[31-i]))
		}
	}
	k.is(t, api.OK, l...)
	k.is(t, api.OK, l[7])
	crashed(t, k, swap, func(o *kit) { o.is(t, api.OK, gone(l[0].Name)) })
}

// P15.2: long runs on devices that die now and then, at any call.
func TestLongRunsOfCrashes(t *testing.T) {
	x := uint64(362436069)
	for range 150 {
		k := made(t, 64+draw(&x, 60))
		for range 50 {
			var l []Put
			for range 1 + draw(&x, 4) {
				name := fmt.Sprint("f", draw(&x, 10))
				l = append(l, Put{Name: name, Gone: draw(&x, 4) == 0, B: []byte(drawn(&x, draw(&x, 400)))})
			}
			if draw(&x, 3) > 0 {
				k.apply(t, l...)
				continue
			}
			k.d.Fuse(draw(&x, 20))
			err := k.Apply(l)
			next := k.w.after(l)
			if err == api.OK {
				k.w = next
			}
			if (err == api.ErrDown) != k.Down() || !maps.Equal(held(t, k.Store), k.w) {
				t.Fatalf("Apply: %v, %v", err, k.w)
			}
			keep := make([]bool, draw(&x, 40))
			for i := range keep {
				keep[i] = draw(&x, 2) == 0
			}
			k.d = k.d.Crash(keep...)
			s, e := Open(k.d)
			if e != api.OK {
				t.Fatalf("Open: %v", e)
			}
			if k.Store = s; err == api.ErrDown && maps.Equal(held(t, s), next) {
				k.w = next
			}
			k.check(t)
		}
	}
}

// P15.1, P15.2: behind a crash in a Make there is no store yet, or one without files; on a device that has a store, that one, or one without files.
func TestCrashInMake(t *testing.T) {
	x := uint64(521288629)
	for turns := range 5 {
		k := &kit{d: dev.New(64)}
		old := turns > 0
		if old {
			k = made(t, 64)
			for i := range turns - 1 {
				k.is(t, api.OK, lay("a", fmt.Sprint(i)), lay(fmt.Sprint("b", i), blocks(i)))
			}
		}
		for fuse := 0; ; fuse++ {
			c := k.d.Crash()
			c.Fuse(fuse)
			s, err := Make(c)
			if err == api.OK {
				break
			}
			if s != nil || err != api.ErrDown {
				t.Fatalf("Make: %v", err)
			}
			for _, keep := range keeps(c, &x) {
				s, err := Open(c.Crash(keep...))
				if (err == api.ErrCorrupt && s == nil) && !old {
					continue
				}
				if got := held(t, s); err != api.OK || len(got) > 0 && !maps.Equal(got, k.w) {
					t.Fatalf("behind %d turns, fuse %d, keep %v: %v, %v", turns, fuse, keep, got, err)
				}
			}
		}
	}
}

// P15.2: once the device has told an error the store is down, and tells what it held; the device of it may be opened.
func TestDown(t *testing.T) {
	for fuse := range 6 {
		k := made(t, 64)
		k.is(t, api.OK, lay("a", blocks(2)), lay("b", ""), gone("c"))
		k.d.Fuse(fuse)
		if k.Down() {
			t.Error("it is down ahead of any error")
		}
		l := []Put{lay("a", blocks(4)), lay("b", "x")}
		free := k.Free()
		if err := k.Apply(l); err != api.ErrDown || !k.Down() {
			t.Fatalf("fuse %d: %v", fuse, err)
		}
		for _, l := range [][]Put{nil, {}, l, {lay("", "")}, {lay("x", strings.Repeat("x", 65537))}, {lay("x", strings.Repeat("x", 65536))}} {
			if err := k.Apply(l); err != api.ErrDown {
				t.Errorf("Apply of one that is down: %v", err)
			}
		}
		k.check(t)
		if b, err := k.Get("c"); b != nil || err != api.ErrNone || k.Free() != free {
			t.Errorf("Get of one that is down: %v", err)
		}
		o, err := Open(k.d)
		if err != api.OK || o.Down() || !maps.Equal(held(t, o), k.w) {
			t.Errorf("Open of a dead device: %v", err)
		}
		if o.Apply(l) != api.ErrDown || !o.Down() {
			t.Error("Apply on a dead device")
		}
	}
}

// P15.2: errors that are not the device's leave a store up.
func TestUp(t *testing.T) {
	k := made(t, 64)
	k.d.Fuse(0)
	for _, p := range []Put{lay("", ""), lay("x", strings.Repeat("x", 65537)), lay("x", strings.Repeat("x", 65536))} {
		if k.Apply([]Put{p}) == api.OK || k.Down() {
			t.Error("it is down")
		}
	}
	if k.Apply(nil) != api.OK || k.Down() {
		t.Error("an Apply of nothing")
	}
}

// P15.2: ErrCorrupt of devices on which no store was laid.
func TestNoStore(t *testing.T) {
	x := uint64(88172645463325252)
	small := dev.New(63)
	super.Make(small, superAt, head{}.encode())
	l := []*dev.Dev{nil, {}, dev.New(1), dev.New(2), dev.New(63), small, dev.New(64), dev.New(2048)}
	for range 50 {
		d := dev.New(64)
		for i := range d.Len() {
			d.Write(i, []byte(drawn(&x, 64)))
		}
		l = append(l, d)
	}
	for i, d := range l {
		if s, err := Open(d); s != nil || err != api.ErrCorrupt {
			t.Errorf("%d: %v", i, err)
		}
	}
}

// forged answers a device whose super holds text.
func forged(t *testing.T, text []byte) *dev.Dev {
	t.Helper()
	d := dev.New(64)
	if _, err := super.Make(d, superAt, text); err != api.OK {
		t.Fatalf("%v", err)
	}
	return d
}

// listed answers a device whose super leads to a list of the bytes b, on the sectors at.
func listed(t *testing.T, b []byte, at ...int) *dev.Dev {
	t.Helper()
	d := forged(t, headOf(b, at).encode())
	for k, i := range at {
		d.Write(i, b[min(len(b), 64*k):min(len(b), 64*k+64)])
	}
	return d
}

// P0.1, P15.2: ErrCorrupt of a list that can't be one, or of files that can't stand so.
func TestForgedLists(t *testing.T) {
	file := func(name string, n, at int) dir.Entry {
		return dir.Entry{Name: name, Len: n, Span: extent.Span{At: at, Len: need(n)}}
	}
	for i, c := range []struct {
		l  []dir.Entry
		at []int
		ok bool
	}{
		{[]dir.Entry{file("a", 100, 2)}, []int{63}, true},
		{[]dir.Entry{file("a", 100, 2), file("b", 0, 0), file("c", 1, 4)}, []int{5}, true},
		{[]dir.Entry{file("a", 50*64, 2)}, []int{52}, true},
		{[]dir.Entry{file("a", 100, 2), file("b", 1, 3)}, []int{63}, false},
		{[]dir.Entry{file("a", 100, 2), file("b", 100, 2)}, []int{63}, false},
		{[]dir.Entry{file("a", 100, 0)}, []int{63}, false},
		{[]dir.Entry{file("a", 100, 1)}, []int{63}, false},
		{[]dir.Entry{file("a", 100, 62)}, []int{61}, false},
		{[]dir.Entry{file("a", 100, 63)}, []int{61}, false},
		{[]dir.Entry{file("a", 100, 64)}, []int{61}, false},
		{[]dir.Entry{file("a", 100, 2048)}, []int{61}, false},
		{[]dir.Entry{file("a", 65536, 2)}, []int{61}, false},
		{[]dir.Entry{file("a", 100, 2)}, []int{3}, false},
		{[]dir.Entry{file("a", 100, 2)}, []int{0}, false},
		{[]dir.Entry{file("a", 100, 2)}, []int{1}, false},
		{[]dir.Entry{file("a", 100, 2)}, []int{64}, false},
		{[]dir.Entry{file("a", 100, 2)}, []int{-1}, false},
		{[]dir.Entry{file("a", 100, 2)}, []int{math.MaxInt}, false},
		{[]dir.Entry{file("a", 100, 2)}, []int{63, 62}, false},
		{[]dir.Entry{file("a", 100, 2)}, nil, false},
	} {
		d := listed(t, dir.Encode(c.l), c.at...)
		calls := d.Calls()
		s, err := Open(d)
		if (err == api.OK) != c.ok || (s != nil) != c.ok || !c.ok && err != api.ErrCorrupt || d.Calls() != calls {
			t.Errorf("%d: %v", i, err)
		}
		if c.ok && (len(s.Names()) != len(c.l) || s.Free() < 0 || s.Apply([]Put{lay("z", "")}) != api.OK) {
			t.Errorf("%d: %q", i, s.Names())
		}
	}
	long := strings.Repeat("n", 64)
	for _, b := range []string{"\x02", "\x02\x02a\x00\x00", "\x02\x02a\x00\x00\x00\x00", "\x00\x00", "\x80\x00", long} {
		if s, err := Open(listed(t, []byte(b), 63)); s != nil || err != api.ErrCorrupt {
			t.Errorf("%q: %v", b, err)
		}
	}
	if s, err := Open(listed(t, []byte(long+long), 63, 63)); s != nil || err != api.ErrCorrupt {
		t.Errorf("of one sector twice: %v", err)
	}
}

// P0.1, P15.2: whatever the super holds, Open ends; what no Apply left there is ErrCorrupt.
func TestForgedSupers(t *testing.T) {
	x := uint64(2463534242)
	for k := range 4000 {
		text := []byte(drawn(&x, draw(&x, 41)))
		if k < 3*256 {
			text = bytes.Repeat([]byte{byte(k)}, 1+k/256*13)
		}
		if s, err := Open(forged(t, text)); s != nil && s.Names() == nil || (s == nil) != (err == api.ErrCorrupt) {
			t.Fatalf("%x: %v", text, err)
		}
	}
	for _, h := range []head{
		{size: -1}, {size: 1}, {size: 64}, {size: 897, list: make([]int, 15)}, {size: math.MaxInt}, {size: math.MaxInt - 62}, {size: math.MinInt},
		{sum: 1}, {sum: -1}, {sum: 1 << 32}, {sum: math.MaxInt64}, {list: []int{63}},
	} {
		if s, err := Open(forged(t, h.encode())); s != nil || err != api.ErrCorrupt {
			t.Errorf("%+v: %v", h, err)
		}
	}
	whole := head{}.encode()
	for _, text := range [][]byte{nil, whole[:1], append(slices.Clone(whole), 0x80), append(slices.Clone(whole), 0)} {
		if s, err := Open(forged(t, text)); s != nil || err != api.ErrCorrupt {
			t.Errorf("%x: %v", text, err)
		}
	}
}

// P15.2: with one bit of the list turned over, at any place, it is ErrCorrupt.
func TestFlippedBits(t *testing.T) {
	k := made(t, 64)
	for i, name := range long(9) {
		k.is(t, api.OK, lay(name, blocks(i%3)))
	}
	size := len(dir.Encode(k.files))
	for n := range size * 8 {
		d := k.d.Crash()
		b, _ := d.Read(k.list[n/512])
		b[n%512/8] ^= 1 << (n % 8)
		d.Write(k.list[n/512], b)
		if s, err := Open(d); s != nil || err != api.ErrCorrupt {
			t.Fatalf("bit %d: %v", n, err)
		}
	}
}

// P15.2: a nil *Store, and one that neither Make nor Open answered.
func TestNil(t *testing.T) {
	var none *Store
	for _, s := range []*Store{none, {}} {
		for _, l := range [][]Put{nil, {}, {lay("a", "one")}, {gone("a")}, {lay("", "")}} {
			if err := s.Apply(l); err != api.ErrDown {
				t.Errorf("Apply: %v", err)
			}
		}
		if !s.Down() || s.Free() != 0 || len(s.Names()) != 0 {
			t.Errorf("%v, %d, %v", s.Down(), s.Free(), s.Names())
		}
		for _, name := range []string{"", "a", strings.Repeat("a", 21)} {
			if b, err := s.Get(name); b != nil || err != api.ErrDown {
				t.Errorf("Get: %v", err)
			}
		}
	}
}

// P0.3: what is handed in stays, its spare room too, and none of it is kept.
func TestArgumentsStay(t *testing.T) {
	k := made(t, 64)
	room := bytes.Repeat([]byte{7}, 200)
	l := make([]Put, 4, 9)
	copy(l, []Put{{Name: "b", B: room[:70]}, {Name: "a", B: room[80:81]}, {Name: "b", B: room[100:180]}, {Name: "c", Gone: true}})
	was := fmt.Sprint(l[:9])
	if err := k.Apply(l); err != api.OK {
		t.Fatalf("%v", err)
	}
	if !bytes.Equal(room, bytes.Repeat([]byte{7}, 200)) || fmt.Sprint(l[:9]) != was {
		t.Error("what is handed in is changed")
	}
	k.w = k.w.after(l)
	clear(room)
	clear(l[:9])
	k.check(t)
	k.is(t, api.OK, lay("d", "x"))
}

// P0.3: an answer is new memory, spare room too.
func TestAnswersAreNew(t *testing.T) {
	k := made(t, 64)
	k.is(t, api.OK, lay("a", "one"), lay("b", blocks(2)), lay("c", ""))
	for _, name := range k.Names() {
		b, _ := k.Get(name)
		other, _ := k.Get(name)
		b = b[:cap(b)]
		for i := range b {
			b[i] = 0xee
		}
		if string(other) != k.w[name] {
			t.Error("Get answers memory of another answer")
		}
	}
	l, other := k.Names(), k.Names()
	l = l[:cap(l)]
	for i := range l {
		l[i] = "x"
	}
	if !slices.Equal(other, []string{"a", "b", "c"}) {
		t.Error("Names answers memory of another answer")
	}
	k.check(t)
}

// P0.4: a nil B is as an empty one.
func TestNilBytes(t *testing.T) {
	k := made(t, 64)
	for _, b := range [][]byte{nil, {}, make([]byte, 0, 50)} {
		k.is(t, api.OK, lay("a", "one"))
		k.is(t, api.OK, Put{Name: "a", B: b})
		k.is(t, api.OK, Put{Name: "a", Gone: true, B: b})
	}
}

// P0.5: the same calls, the same answers, and the same bytes.
func TestRepeats(t *testing.T) {
	var first []byte
	for range 5 {
		k := made(t, 64)
		for i := range 5 {
			var l []Put
			for n, name := range long(20) {
				l = append(l, Put{Name: name, Gone: (n+i)%3 == 0, B: []byte(blocks((n + i) % 2))})
			}
			k.is(t, api.OK, l...)
		}
		var all []byte
		for i := range k.d.Len() {
			b, _ := k.d.Read(i)
			all = append(all, b...)
		}
		if first == nil {
			first = all
		}
		if !bytes.Equal(all, first) {
			t.Error("the same calls leave other bytes")
		}
	}
}
