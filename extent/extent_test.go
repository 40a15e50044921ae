package extent

import (
	"math"
	"slices"
	"testing"
)

// ruled is what the tests hold a Room against: each sector by its number, each call by the promise's own words, a sector at a time. Its numbers go on beyond the greatest int.
type ruled struct {
	at, n uint64
	free  map[uint64]bool // of each sector that it has
}

// ruledOf answers the sectors at to at + n - 1, all of them free.
func ruledOf(at, n int) *ruled {
	m := &ruled{at: uint64(at), n: uint64(n), free: map[uint64]bool{}}
	for i := range m.n {
		m.free[m.at+i] = true
	}
	return m
}

// each tells whether s has sectors and all of them are m's and free, or all of them are m's and not free.
func (m *ruled) each(s Span, free bool) bool {
	for k := range s.Len {
		if is, has := m.free[uint64(s.At)+uint64(k)]; s.At < 0 || !has || is != free {
			return false
		}
	}
	return s.Len >= 1
}

// turn answers what Use and Give answer, and does it.
func (m *ruled) turn(s Span, free bool) bool {
	if !m.each(s, !free) {
		return false
	}
	for k := range s.Len {
		m.free[uint64(s.At)+uint64(k)] = free
	}
	return true
}

// spans answers the free rows.
func (m *ruled) spans() []Span {
	var l []Span
	for i := range m.n {
		x := m.at + i
		if !m.free[x] || (i > 0 && m.free[x-1]) || x > math.MaxInt {
			continue
		}
		s := Span{int(x), 0}
		for m.free[x] {
			s.Len++
			x++
		}
		l = append(l, s)
	}
	return l
}

// take answers what Take answers, and does it.
func (m *ruled) take(n int) (Span, bool) {
	for _, row := range m.spans() {
		if n >= 1 && row.Len >= n {
			return Span{row.At, n}, m.turn(Span{row.At, n}, false)
		}
	}
	return Span{}, false
}

// count answers how many are free.
func (m *ruled) count() int {
	n := 0
	for _, free := range m.free {
		if free {
			n++
		}
	}
	return n
}

// isRuled holds what r tells against m.
func isRuled(t *testing.T, r *Room, m *ruled) {
	t.Helper()
	if got := r.Free(); got != m.count() {
		t.Fatalf("Free: %d, not %d", got, m.count())
	}
	if got := r.Spans(); !slices.Equal(got, m.spans()) {
		t.Fatalf("Spans: %v, not %v", got, m.spans())
	}
}

// isTaken lets r and m give out n sectors, and holds what r tells against m.
func isTaken(t *testing.T, r *Room, m *ruled, n int) {
	t.Helper()
	s, ok := r.Take(n)
	if w, wok := m.take(n); s != w || ok != wok {
		t.Fatalf("Take(%d): %v, %v, not %v, %v", n, s, ok, w, wok)
	}
	isRuled(t, r, m)
}

// isTurned does the same with Use, or with Give.
func isTurned(t *testing.T, r *Room, m *ruled, s Span, free bool) {
	t.Helper()
	call := r.Use
	if free {
		call = r.Give
	}
	if ok, w := call(s), m.turn(s, free); ok != w {
		t.Fatalf("%v, free %v: %v, not %v", s, free, ok, w)
	}
	isRuled(t, r, m)
}

// stateOf answers a Room of n sectors from at on, those free that the bits of state name, and what it is held against; made by giving out, or by taking back.
func stateOf(t *testing.T, at, n, state int, back bool) (*Room, *ruled) {
	t.Helper()
	r, m := New(at, n), ruledOf(at, n)
	if back {
		if s, ok := r.Take(n); s != (Span{at, n}) || !ok {
			t.Fatalf("Take of all: %v, %v", s, ok)
		}
	}
	for i := range n {
		free := state>>i&1 == 1
		m.free[uint64(at+i)] = free
		ok := free != back
		if ok {
			continue
		}
		if ok = r.Use(Span{at + i, 1}); back {
			ok = r.Give(Span{at + i, 1})
		}
		if !ok {
			t.Fatalf("the sector %d of %d", i, n)
		}
	}
	isRuled(t, r, m)
	return r, m
}

// draw answers a number below n by a short rule, the same ones in each run.
func draw(x *uint64, n int) int {
	*x ^= *x << 13
	*x ^= *x >> 7
	*x ^= *x << 17
	return int(*x >> 33 % uint64(n))
}

// P13.1: New: the sectors from at on, all of them free.
func TestNew(t *testing.T) {
	for _, n := range []int{0, 1, 2, 7, 8, 63, 64, 65, 255, 256, 257, 2047, 2048} {
		for _, at := range []int{0, 1, 2, 10, 63, 2047, 2048, 2049, 1 << 31, 1 << 40, math.MaxInt - 2048} {
			r, m := New(at, n), ruledOf(at, n)
			isRuled(t, r, m)
			if r.Free() != n {
				t.Errorf("New(%d, %d): %d are free", at, n, r.Free())
			}
			isTaken(t, r.Copy(), ruledOf(at, n), n)
			isTurned(t, r.Copy(), ruledOf(at, n), Span{at, n}, false)
			isTaken(t, r.Copy(), ruledOf(at, n), n+1)
			isTurned(t, r.Copy(), ruledOf(at, n), Span{at, n + 1}, false)
			isTurned(t, r.Copy(), ruledOf(at, n), Span{at - 1, n + 1}, false)
			isTurned(t, r.Copy(), ruledOf(at, n), Span{at - 1, 1}, false)
			isTurned(t, r.Copy(), ruledOf(at, n), Span{at + n, 1}, false)
		}
	}
}

// P13.1: other arguments of New: no sectors; and a Room that New did not answer.
func TestNoSectors(t *testing.T) {
	l := []*Room{{}, (&Room{}).Copy()}
	for _, n := range []int{2049, 2050, 4096, 1 << 32, math.MaxInt, -1, -2, -2048, math.MinInt} {
		for _, at := range []int{0, 1, 2048, math.MaxInt, -1, math.MinInt} {
			l = append(l, New(at, n))
		}
	}
	for _, n := range []int{0, 1, 2, 64, 2048} {
		for _, at := range []int{-1, -2, -64, -2048, math.MinInt, math.MinInt + 1} {
			l = append(l, New(at, n), New(at, n).Copy())
		}
	}
	for _, r := range l {
		if r == nil {
			t.Fatal("New: nil")
		}
		isNone(t, r)
	}
}

// isNone holds that r has no sectors, whatever it is told.
func isNone(t *testing.T, r *Room) {
	t.Helper()
	for _, at := range []int{math.MinInt, -2048, -2, -1, 0, 1, 2, 64, 2048, math.MaxInt} {
		for _, n := range []int{math.MinInt, -1, 0, 1, 2, 2048, math.MaxInt} {
			if r.Use(Span{at, n}) || r.Give(Span{at, n}) {
				t.Errorf("it has a Span{%d, %d}", at, n)
			}
			if s, ok := r.Take(n); s != (Span{}) || ok {
				t.Errorf("Take(%d): %v, %v", n, s, ok)
			}
		}
	}
	if r.Free() != 0 || len(r.Spans()) != 0 {
		t.Errorf("it has %v", r.Spans())
	}
}

// P13.1: a nil *Room.
func TestNil(t *testing.T) {
	var r *Room
	isNone(t, r)
	if r.Copy() != nil {
		t.Error("Copy")
	}
}

// P13.1, P0.2: of small Rooms, in whatever state, each call with all arguments about their ends.
func TestSmallRooms(t *testing.T) {
	for n := range 7 {
		for _, at := range []int{0, 1, 5} {
			for state := range 1 << n {
				for _, back := range []bool{false, n > 0} {
					r, m := stateOf(t, at, n, state, back)
					for k := -2; k <= n+2; k++ {
						smallCalls(t, r, m, k)
					}
					isRuled(t, r, m)
				}
			}
		}
	}
}

// smallCalls makes each call of k sectors, each one on a Room alike.
func smallCalls(t *testing.T, r *Room, m *ruled, k int) {
	t.Helper()
	isTaken(t, r.Copy(), m.copied(), k)
	for at := int(m.at) - 2; at <= int(m.at+m.n)+2; at++ {
		isTurned(t, r.Copy(), m.copied(), Span{at, k}, false)
		isTurned(t, r.Copy(), m.copied(), Span{at, k}, true)
	}
}

// copied answers another one alike.
func (m *ruled) copied() *ruled {
	c := &ruled{at: m.at, n: m.n, free: map[uint64]bool{}}
	for x, free := range m.free {
		c.free[x] = free
	}
	return c
}

// P13.1: Take: the first row that has as many, not the one that fits best nor a later one, and its first sectors.
func TestFirstRow(t *testing.T) {
	r := New(100, 40)
	for _, s := range []Span{{102, 1}, {108, 2}, {113, 1}, {118, 1}, {139, 1}} {
		if !r.Use(s) {
			t.Fatalf("Use(%v)", s)
		}
	}
	for _, c := range []struct {
		n, at int
		ok    bool
	}{
		{3, 103, true}, {3, 110, true}, {4, 114, true}, {1, 100, true}, {2, 106, true}, {2, 119, true},
		{1, 101, true}, {19, 0, false}, {18, 121, true}, {1, 0, false}, {0, 0, false}, {-1, 0, false},
	} {
		w := Span{}
		if c.ok {
			w = Span{c.at, c.n}
		}
		if s, ok := r.Take(c.n); s != w || ok != c.ok {
			t.Errorf("Take(%d): %v, %v, not %v", c.n, s, ok, w)
		}
	}
	if r.Free() != 0 {
		t.Errorf("free: %v", r.Spans())
	}
}

// P13.1: Take of what no row has, as many as are free in all.
func TestTakeAcrossRows(t *testing.T) {
	r := New(0, 2048)
	for at := 1; at < 2048; at += 2 {
		if !r.Use(Span{at, 1}) {
			t.Fatalf("Use of %d", at)
		}
	}
	for _, n := range []int{2, 3, 1024, 2048, 2049, math.MaxInt, 0, -1, math.MinInt} {
		if s, ok := r.Take(n); s != (Span{}) || ok || r.Free() != 1024 || len(r.Spans()) != 1024 {
			t.Errorf("Take(%d): %v, %v", n, s, ok)
		}
	}
	if !r.Give(Span{2047, 1}) {
		t.Fatal("Give")
	}
	if s, ok := r.Take(2); s != (Span{2046, 2}) || !ok {
		t.Errorf("Take(2): %v, %v", s, ok)
	}
}

// P13.1: what is given back is no row of its own beside a free one, on either side.
func TestRowsMeet(t *testing.T) {
	for _, c := range []struct {
		s Span
		w []Span
	}{
		{Span{13, 4}, []Span{{10, 2}, {13, 4}, {18, 2}}},
		{Span{12, 3}, []Span{{10, 5}, {18, 2}}},
		{Span{15, 3}, []Span{{10, 2}, {15, 5}}},
		{Span{12, 6}, []Span{{10, 10}}},
	} {
		r := New(10, 10)
		if !r.Use(Span{12, 6}) || !r.Give(c.s) || !slices.Equal(r.Spans(), c.w) {
			t.Errorf("behind %v: %v, not %v", c.s, r.Spans(), c.w)
		}
		if r.Give(c.s) || !slices.Equal(r.Spans(), c.w) {
			t.Errorf("behind %v twice: %v", c.s, r.Spans())
		}
	}
}

// P13.1: a Span of which one sector may not be is false, and changes nothing of the others.
func TestOneOfMany(t *testing.T) {
	for i := range 9 {
		r := New(3, 9)
		if !r.Use(Span{3 + i, 1}) {
			t.Fatal("Use")
		}
		w := r.Spans()
		if r.Use(Span{3, 9}) || !slices.Equal(r.Spans(), w) {
			t.Errorf("Use of all, without the sector %d: %v", i, r.Spans())
		}
		if r.Give(Span{3, 9}) || !slices.Equal(r.Spans(), w) {
			t.Errorf("Give of all, with the sector %d: %v", i, r.Spans())
		}
		r = New(3, 9)
		r.Take(9)
		if !r.Give(Span{3 + i, 1}) || r.Give(Span{3, 9}) || r.Use(Span{3, 9}) || r.Free() != 1 {
			t.Errorf("the sector %d alone: %v", i, r.Spans())
		}
	}
}

// P13.1: Give takes back what was given out, in whatever pieces.
func TestOtherPieces(t *testing.T) {
	r := New(0, 12)
	for _, n := range []int{5, 4, 3} {
		r.Take(n)
	}
	for _, s := range []Span{{4, 2}, {0, 1}, {7, 5}, {6, 1}, {1, 3}} {
		if !r.Give(s) {
			t.Errorf("Give(%v)", s)
		}
	}
	if !slices.Equal(r.Spans(), []Span{{0, 12}}) {
		t.Errorf("free: %v", r.Spans())
	}
}

// P0.1, P0.6, P13.1: numbers of all sizes, of which no sum may wrap.
func TestHugeNumbers(t *testing.T) {
	l := []int{math.MinInt, math.MinInt + 1, math.MinInt + 12, -1 << 32, -2048, -12, -1, 0, 1, 9, 10, 12, 21, 22, 2048, 1 << 32, math.MaxInt - 22, math.MaxInt - 12, math.MaxInt - 10, math.MaxInt - 9, math.MaxInt - 1, math.MaxInt}
	for _, room := range []Span{{10, 12}, {0, 12}, {math.MaxInt - 11, 12}, {math.MaxInt - 12, 12}} {
		for _, used := range []bool{false, true} {
			r, m := New(room.At, room.Len), ruledOf(room.At, room.Len)
			if used {
				isTaken(t, r, m, 12)
			}
			for _, at := range l {
				for _, n := range l {
					hugeCall(t, r.Copy(), m.copied(), Span{at, n}, used)
				}
				isTaken(t, r.Copy(), m.copied(), at)
			}
		}
	}
}

// hugeCall makes both calls of s.
func hugeCall(t *testing.T, r *Room, m *ruled, s Span, used bool) {
	t.Helper()
	isTurned(t, r, m, s, !used)
	isTurned(t, r, m, s, used)
}

// P0.6, P13.1: up to the greatest number that a sector may have.
func TestLastSectors(t *testing.T) {
	for n := 1; n <= 2048; n = 2*n + 1 {
		at := math.MaxInt - n + 1
		r, m := New(at, n), ruledOf(at, n)
		isRuled(t, r, m)
		isTurned(t, r, m, Span{math.MaxInt, 1}, false)
		isTurned(t, r, m, Span{math.MaxInt, 1}, false)
		isTurned(t, r, m, Span{math.MaxInt, 2}, true)
		isTurned(t, r, m, Span{math.MaxInt, 1}, true)
		for range n + 1 {
			isTaken(t, r, m, 1)
		}
		isTurned(t, r, m, Span{at, n}, true)
	}
}

// P0.6, P13.1: beyond that number too there are sectors, but no Span begins there.
func TestBeyondInt(t *testing.T) {
	for _, c := range []Span{{math.MaxInt, 2}, {math.MaxInt, 2048}, {math.MaxInt - 1, 4}, {math.MaxInt - 2, 3}, {math.MaxInt - 5, 12}, {math.MaxInt - 2046, 2048}} {
		r, m := New(c.At, c.Len), ruledOf(c.At, c.Len)
		isRuled(t, r, m)
		if r.Free() != c.Len || !slices.Equal(r.Spans(), []Span{c}) {
			t.Errorf("New%v: %v", c, r.Spans())
		}
		isTurned(t, r, m, c, false)
		isTurned(t, r, m, c, true)
		isTurned(t, r, m, Span{c.At, c.Len + 1}, false)
		x := uint64(c.Len)
		for range 400 {
			s := Span{c.At + draw(&x, math.MaxInt-c.At+1), 1 + draw(&x, c.Len+1)}
			isTurned(t, r, m, s, draw(&x, 2) == 0)
			isTurned(t, r, m, Span{math.MinInt + draw(&x, 9), s.Len}, draw(&x, 2) == 0)
			isTaken(t, r, m, draw(&x, c.Len+2))
		}
	}
}

// P13.1: all of the greatest Room, a sector at a time, given back in another order.
func TestAllSectors(t *testing.T) {
	r := New(7, 2048)
	for i := range 2048 {
		if s, ok := r.Take(1); s != (Span{7 + i, 1}) || !ok || r.Free() != 2047-i {
			t.Fatalf("Take %d: %v, %v", i, s, ok)
		}
	}
	if s, ok := r.Take(1); s != (Span{}) || ok || len(r.Spans()) != 0 {
		t.Fatalf("Take of none: %v, %v", s, ok)
	}
	for i := range 2048 {
		s := Span{7 + i*773%2048, 1}
		if r.Use(s) || !r.Give(s) || r.Give(s) || r.Free() != i+1 {
			t.Fatalf("Give(%v)", s)
		}
	}
	if !slices.Equal(r.Spans(), []Span{{7, 2048}}) {
		t.Errorf("free: %v", r.Spans())
	}
}

// P13.1: Copy: another one, alike; what is told to the one changes nothing of the other.
func TestCopy(t *testing.T) {
	r, m := stateOf(t, 4, 8, 0b10110101, false)
	c, cm := r.Copy(), m.copied()
	isRuled(t, c, cm)
	isTaken(t, r, m, 2)
	isRuled(t, c, cm)
	isTurned(t, c, cm, Span{4, 1}, false)
	isRuled(t, r, m)
	isTurned(t, c, cm, Span{5, 1}, true)
	isRuled(t, r, m)
	isTurned(t, r, m, Span{8, 2}, true)
	isTurned(t, r, m, Span{7, 1}, true)
	isRuled(t, c, cm)
	isTaken(t, c.Copy(), cm.copied(), 2)
	isRuled(t, c, cm)
}

// P0.3: what Spans answers is new memory, spare room too.
func TestSpansAreNew(t *testing.T) {
	for state := range 1 << 7 {
		r, m := stateOf(t, 2, 7, state, false)
		l, other := r.Spans(), r.Spans()
		l = l[:cap(l)]
		for i := range l {
			l[i] = Span{99, 99}
		}
		if !slices.Equal(other, m.spans()) {
			t.Errorf("state %b: Spans answers memory of another answer", state)
		}
		isRuled(t, r, m)
	}
}

// P13.1: long runs of all calls, on Rooms and their copies.
func TestLongRuns(t *testing.T) {
	x := uint64(88172645463325252)
	for k := range 40 {
		at, n := draw(&x, 100), 1+draw(&x, 1<<(k%12))
		rooms, ms := []*Room{New(at, n)}, []*ruled{ruledOf(at, n)}
		for range 200 {
			i := draw(&x, len(rooms))
			r, m := rooms[i], ms[i]
			s := Span{at - 1 + draw(&x, n+2), draw(&x, 2+draw(&x, n))}
			switch draw(&x, 7) {
			case 0, 1:
				isTaken(t, r, m, s.Len)
			case 2, 3:
				isTurned(t, r, m, s, false)
			case 4, 5:
				isTurned(t, r, m, s, true)
			default:
				if len(rooms) < 4 {
					rooms, ms = append(rooms, r.Copy()), append(ms, m.copied())
				}
			}
			for j := range rooms {
				isRuled(t, rooms[j], ms[j])
			}
		}
	}
}

// P0.5: the same calls, the same answers.
func TestRepeats(t *testing.T) {
	var first []Span
	for range 3 {
		x := uint64(362436069)
		r := New(0, 300)
		var told []Span
		for range 200 {
			if s, ok := r.Take(1 + draw(&x, 9)); ok {
				told = append(told, s)
			}
			r.Give(Span{draw(&x, 300), 1 + draw(&x, 4)})
		}
		told = append(told, r.Spans()...)
		if first == nil {
			first = told
		}
		if !slices.Equal(told, first) {
			t.Error("the same calls answer otherwise")
		}
	}
}
