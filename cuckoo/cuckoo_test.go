package cuckoo

import (
	"fmt"
	"maps"
	"math"
	"math/rand"
	"slices"
	"testing"
)

// most is the greatest number of an entry.
const most = 1 << 40

// wrong are numbers that no entry may have.
var wrong = []int{-1, -2, math.MinInt, math.MinInt32, -most, most + 1, most + 2, 1 << 41, 1 << 62, math.MaxInt}

// made answers the hash of a first bucket and a tag, with just these bits.
func made(first, tag int) uint64 {
	return uint64(tag)*256 + uint64(first)
}

// dressed answers the same with other bits beside these: of none of them anything is kept.
func dressed(first, tag int, more uint64) uint64 {
	return more&^0x7fff07 | made(first, tag)
}

// firstOf, tagOf and otherOf say of a hash what its promise says.
func firstOf(h uint64) int { return int(h % 8) }
func tagOf(h uint64) int   { return int(h / 256 % 32768) }
func otherOf(h uint64) int { return firstOf(h) ^ (1 + tagOf(h)%7) }

// item is what was inserted: a hash and its number now.
type item struct {
	h  uint64
	id int
}

// alike tells whether two hashes have one tag and the same two buckets.
func alike(g, h uint64) bool {
	return tagOf(g) == tagOf(h) && (firstOf(g) == firstOf(h) || firstOf(g) == otherOf(h))
}

// seen is what At tells of a slot.
type seen struct {
	id, tag int
	ok      bool
}

// look answers what At tells of all slots.
func look(d *Dir) [8][4]seen {
	var l [8][4]seen
	for b := range l {
		for s := range l[b] {
			id, tag, ok := d.At(b, s)
			l[b][s] = seen{id, tag, ok}
		}
	}
	return l
}

// fits tells whether there is a way to lay all of l: for no choice of buckets do more of them belong in these alone than these have slots (that there is then a way is Hall's theorem).
func fits(l []item) bool {
	for set := range 1 << 8 {
		need, room := 0, 0
		for b := range 8 {
			room += 4 * (set >> b & 1)
		}
		for _, x := range l {
			need += set >> firstOf(x.h) & 1 & (set >> otherOf(x.h))
		}
		if need > room {
			return false
		}
	}
	return true
}

// found answers the numbers that Find has to tell of h, of the items l.
func found(l []item, h uint64) []int {
	var ids []int
	for _, x := range l {
		if alike(x.h, h) {
			ids = append(ids, x.id)
		}
	}
	slices.Sort(ids)
	return ids
}

// lie is an entry as it lies: the lower one of its buckets and the higher one, whichever it is in.
type lie struct{ low, high, tag, id int }

// lies answers the entries that At tells, and fails if one is where no bucket of its can be or an empty slot is not all zero.
func lies(t *testing.T, d *Dir) []lie {
	t.Helper()
	var l []lie
	for b, row := range look(d) {
		for s, x := range row {
			if !x.ok {
				if x != (seen{}) {
					t.Fatalf("At(%d, %d): %v", b, s, x)
				}
				continue
			}
			other := otherOf(made(b, x.tag))
			l = append(l, lie{min(b, other), max(b, other), x.tag, x.id})
		}
	}
	return l
}

// check fails if not just the items l lie in d, each in one of its buckets, or if Find or Len tell otherwise.
func check(t *testing.T, d *Dir, l []item) {
	t.Helper()
	got, want := map[lie]int{}, map[lie]int{}
	for _, x := range lies(t, d) {
		got[x]++
	}
	for _, x := range l {
		a, b := firstOf(x.h), otherOf(x.h)
		want[lie{min(a, b), max(a, b), tagOf(x.h), x.id}]++
	}
	if !maps.Equal(got, want) {
		t.Fatalf("there lie %v, not %v", got, want)
	}
	if d.Len() != len(l) {
		t.Fatalf("Len: %d, not %d", d.Len(), len(l))
	}
	for _, x := range l {
		if got, want := d.Find(x.h), found(l, x.h); !slices.Equal(got, want) {
			t.Fatalf("Find(%#x): %v, not %v", x.h, got, want)
		}
	}
}

// insert inserts into d, fails if it is not as the items l let it, and answers the items then.
func insert(t *testing.T, d *Dir, l []item, x item) []item {
	t.Helper()
	was, all := look(d), append(slices.Clone(l), x)
	want := x.id >= 0 && x.id <= most && fits(all)
	if got := d.Insert(x.h, x.id); got != want {
		t.Fatalf("Insert(%#x, %d) behind %v: %v", x.h, x.id, l, got)
	}
	if want {
		check(t, d, all)
		return all
	}
	if look(d) != was {
		t.Fatalf("a false Insert(%#x, %d) changed %v to %v", x.h, x.id, was, look(d))
	}
	return l
}

// set sets, fails if not just the one entry is changed that the promise names, and answers whether there was one.
func set(t *testing.T, d *Dir, h uint64, old, id int) bool {
	t.Helper()
	want, ok := look(d), false
	for _, b := range []int{firstOf(h), otherOf(h)} {
		for s, x := range want[b] {
			if !ok && id >= 0 && id <= most && x == (seen{old, tagOf(h), true}) {
				ok, want[b][s].id = true, id
			}
		}
	}
	if got := d.Set(h, old, id); got != ok {
		t.Fatalf("Set(%#x, %d, %d): %v", h, old, id, got)
	}
	if look(d) != want {
		t.Fatalf("Set(%#x, %d, %d): %v, not %v", h, old, id, look(d), want)
	}
	return ok
}

// P17.1: whatever is inserted, from few buckets or all, of few tags or many, it is laid just if there is a way to.
func TestRandom(t *testing.T) {
	full, many := 0, 0
	for seed := range int64(400) {
		r := rand.New(rand.NewSource(seed))
		d, l := New(), []item(nil)
		buckets, tags, ids := 1+r.Intn(8), 1+r.Intn(20), 1+r.Intn(40)
		draw := func() uint64 { return dressed(r.Intn(buckets), 32767-r.Intn(tags), r.Uint64()) }
		for range 60 {
			x := item{draw(), r.Intn(ids)}
			switch r.Intn(8) {
			case 0:
				x.id = most - x.id
			case 1:
				x.id = wrong[r.Intn(len(wrong))]
			}
			was := len(l)
			l = insert(t, d, l, x)
			if len(l) == was && x.id >= 0 && x.id <= most {
				full++
			}
			if len(l) > 0 && r.Intn(2) == 0 {
				k, id := r.Intn(len(l)), r.Intn(ids)
				old := l[k].id
				if r.Intn(3) == 0 {
					old = r.Intn(ids)
				}
				k = slices.IndexFunc(l, func(x item) bool { return alike(x.h, l[k].h) && x.id == old })
				if k >= 0 && set(t, d, l[k].h, old, id) {
					l[k].id = id
				}
				check(t, d, l)
			}
			if q := draw(); !slices.Equal(d.Find(q), found(l, q)) {
				t.Fatalf("Find(%#x): %v, not %v", q, d.Find(q), found(l, q))
			}
		}
		if len(l) > 28 {
			many++
		}
	}
	if full < 1000 || many < 50 {
		t.Errorf("the draws are poor: %d, %d", full, many)
	}
}

// P17.1: of whole hashes 32 entries lie at most, and whether there is a way does not hang on the order.
func TestOrder(t *testing.T) {
	for seed := range int64(200) {
		r := rand.New(rand.NewSource(seed))
		d, l := New(), []item(nil)
		for id := range 80 {
			l = insert(t, d, l, item{r.Uint64(), id})
		}
		if len(l) > 32 || d.Len() != len(l) {
			t.Fatalf("%d entries, %d items", d.Len(), len(l))
		}
		for range 5 {
			r.Shuffle(len(l), func(i, j int) { l[i], l[j] = l[j], l[i] })
			d := New()
			for _, x := range l {
				if !d.Insert(x.h, x.id) {
					t.Fatalf("Insert(%#x, %d) is false in another order", x.h, x.id)
				}
			}
			check(t, d, l)
		}
	}
}

// P17.1: where room is far, all between have to move: of the pairs of buckets in a row each has four entries, and one pair at an end eight.
func TestFar(t *testing.T) {
	for from := range 8 {
		for _, turn := range []int{1, 3, 5, 7} {
			var row []int
			for i := range 8 {
				row = append(row, (from+i*turn)%8)
			}
			d, l := New(), []item(nil)
			next := func(a, b int) uint64 { return made(row[a], row[a]^row[b]-1) }
			for range 4 {
				for i := range 7 {
					l = insert(t, d, l, item{next(i, i+1), len(l)})
				}
			}
			for i := range 4 {
				l = insert(t, d, l, item{next(i%2, 1-i%2), len(l)})
			}
			if len(l) != 32 {
				t.Fatalf("%v: %d entries", row, len(l))
			}
			for b := range 8 {
				for tag := range 7 {
					l = insert(t, d, l, item{made(b, tag), 99})
				}
			}
		}
	}
}

// P17.1: buckets that are full of what belongs in them alone take no more, and the others do, up to the last slot.
func TestTight(t *testing.T) {
	d, l := New(), []item(nil)
	for id := range 12 { // three entries each of 0 and 1, 1 and 3, 3 and 0, and so on
		l = insert(t, d, l, item{made([]int{0, 1, 3}[id%3], []int{0, 1, 2}[id%3]), id})
	}
	if len(l) != 12 {
		t.Fatalf("%d in three buckets", len(l))
	}
	for _, x := range [][2]int{{0, 0}, {1, 0}, {1, 1}, {3, 1}, {3, 2}, {0, 2}, {0, 7}} {
		if d.Insert(made(x[0], x[1]), 50) {
			t.Errorf("a thirteenth entry in three buckets: %v", x)
		}
	}
	check(t, d, l)
	for range 4 {
		l = insert(t, d, l, item{made(0, 1), 60}) // 0 and 2
	}
	if len(l) != 16 || d.Insert(made(2, 1), 60) || d.Insert(made(2, 0), 60) {
		t.Errorf("%d in four buckets", len(l))
	}
	for i := range 20 {
		l = insert(t, d, l, item{made(i%4, 3), 70}) // 0 and 4, 1 and 5, and so on
	}
	if len(l) != 32 || d.Len() != 32 {
		t.Errorf("%d in all", len(l))
	}
}

// P17.1: of one tag and bucket eight find room.
func TestEight(t *testing.T) {
	for first := range 8 {
		for _, tag := range []int{0, 1, 2, 3, 4, 5, 6, 7, 255, 256, 16384, 32766, 32767} {
			d, l := New(), []item(nil)
			other := first ^ (1 + tag%7)
			for id := range 10 {
				l = insert(t, d, l, item{made([]int{first, other}[id/2%2], tag), id})
			}
			if len(l) != 8 {
				t.Fatalf("%d, %d: %d entries", first, tag, len(l))
			}
			for s := range 4 {
				for _, b := range []int{first, other} {
					if _, got, ok := d.At(b, s); !ok || got != tag {
						t.Fatalf("At(%d, %d): %d, %v", b, s, got, ok)
					}
				}
			}
			if got := fmt.Sprint(d.Find(made(first, tag)), d.Find(made(other, tag))); got != "[0 1 2 3 4 5 6 7] [0 1 2 3 4 5 6 7]" {
				t.Errorf("Find: %s", got)
			}
		}
	}
}

// P17.1: 0 and 2^40 and what is between may be numbers, and no others; a number may come twice.
func TestNumbers(t *testing.T) {
	for _, id := range []int{0, 1, 2, 31, 1 << 31, 1 << 32, most - 1, most} {
		d, h := New(), made(5, 32767)
		if !d.Insert(h, id) || !d.Insert(h, id) || !slices.Equal(d.Find(h), []int{id, id}) {
			t.Errorf("Insert of %d: %v", id, d.Find(h))
		}
		if !set(t, d, h, id, most-id) || !set(t, d, h, most-id, id) || !set(t, d, h, id, id) {
			t.Errorf("Set of %d: %v", id, d.Find(h))
		}
	}
	for _, id := range wrong {
		d, h := New(), made(5, 0)
		if d.Insert(h, id) || d.Len() != 0 || look(d) != look(New()) {
			t.Errorf("Insert of %d", id)
		}
		if d.Set(h, 0, id) || d.Set(h, id, 0) || d.Set(h, id, id) {
			t.Errorf("Set of %d, where there is nothing", id)
		}
		l := insert(t, d, nil, item{h, 7})
		if set(t, d, h, 7, id) || set(t, d, h, id, 7) || set(t, d, h, id, id) {
			t.Errorf("Set of %d", id)
		}
		check(t, d, l)
	}
}

// P17.1: an empty slot is no entry of the tag 0 and the number 0.
func TestEmpty(t *testing.T) {
	d := New()
	for b := range 8 {
		for tag := range 14 {
			h := made(b, tag)
			if len(d.Find(h)) != 0 || d.Set(h, 0, 0) || d.Set(h, 0, 1) || d.Len() != 0 {
				t.Fatalf("an empty one: %v", d.Find(h))
			}
		}
	}
	if look(d) != [8][4]seen{} {
		t.Errorf("At of an empty one: %v", look(d))
	}
	l := insert(t, d, nil, item{made(2, 0), 0})
	if set(t, d, made(4, 0), 0, 1) || set(t, d, made(2, 7), 0, 1) || set(t, d, made(2, 1), 0, 1) {
		t.Error("Set of an empty slot")
	}
	check(t, d, l)
	if !set(t, d, made(3, 0), 0, 1) || set(t, d, made(2, 0), 0, 1) {
		t.Error("Set of what lies there")
	}
	check(t, d, []item{{made(2, 0), 1}})
}

// P17.1: of alike entries Set takes the first one, of First ahead of Other, and each by its slots.
func TestSetOrder(t *testing.T) {
	for _, tag := range []int{0, 6, 32767} {
		for first := range 8 {
			h := made(first, tag)
			other := otherOf(h)
			d := New()
			for range 8 {
				if !d.Insert(h, 3) {
					t.Fatal("Insert")
				}
			}
			for i := range 8 {
				if !set(t, d, h, 3, 10+i) {
					t.Fatalf("Set, %d", i)
				}
			}
			for i := range 8 {
				b := []int{first, other}[i/4]
				if id, _, _ := d.At(b, i%4); id != 10+i {
					t.Errorf("At(%d, %d): %d, not %d", b, i%4, id, 10+i)
				}
			}
			if set(t, d, h, 3, 4) {
				t.Error("Set, and there is none any more")
			}
		}
	}
	// From the other bucket on it is the other way round.
	d := New()
	for range 8 {
		d.Insert(made(1, 5), 3)
	}
	for i := range 8 {
		if !set(t, d, made(7, 5), 3, 10+i) {
			t.Fatalf("Set, %d", i)
		}
	}
	if id, _, _ := d.At(7, 0); id != 10 {
		t.Errorf("At(7, 0): %d", id)
	}
}

// P17.1: Find and Set look at the tag and at both buckets, and at nothing else of a hash.
func TestAlike(t *testing.T) {
	d, l := New(), []item(nil)
	for tag := range 21 {
		l = insert(t, d, l, item{made(tag%8, tag), tag})
	}
	for first := range 8 {
		for _, tag := range []int{0, 1, 6, 7, 8, 13, 14, 20, 21, 32767, 16384, 16385} {
			for _, more := range []uint64{0, math.MaxUint64, 1 << 63, 8, 0xf8, 1 << 23, 0x123456789abcdef0} {
				h := dressed(first, tag, more)
				if got, want := d.Find(h), found(l, h); !slices.Equal(got, want) {
					t.Fatalf("Find(%#x): %v, not %v", h, got, want)
				}
				if id := tag % 100; set(t, d, h, id, id) != (len(found(l, h)) > 0) {
					t.Fatalf("Set(%#x, %d, %d)", h, id, id)
				}
			}
		}
	}
	check(t, d, l)
}

// P17.1, P0.1: beyond the buckets and slots there is nothing.
func TestAtOfNone(t *testing.T) {
	d := New()
	for b := range 8 {
		for range 4 {
			d.Insert(made(b, 1), 5)
		}
	}
	if d.Len() != 32 {
		t.Fatalf("%d entries", d.Len())
	}
	out := []int{math.MinInt, math.MinInt32, -8, -4, -1, 8, 9, 31, 32, 256, 1 << 32, math.MaxInt - 1, math.MaxInt}
	for _, bad := range out {
		for _, x := range append([]int{0, 1, 3, 4, 7}, out...) {
			for _, p := range [][2]int{{bad, x}, {x, bad}} {
				if id, tag, ok := d.At(p[0], p[1]); id != 0 || tag != 0 || ok {
					t.Errorf("At%v: %d, %d, %v", p, id, tag, ok)
				}
			}
		}
	}
	for b := range 8 {
		if id, tag, ok := d.At(b, 4); id != 0 || tag != 0 || ok {
			t.Errorf("At(%d, 4): %d, %d, %v", b, id, tag, ok)
		}
	}
}

// P17.1: of a nil one there is nothing, and nothing is taken.
func TestNil(t *testing.T) {
	var d *Dir
	for _, h := range []uint64{0, 1, made(7, 32767), math.MaxUint64} {
		for _, id := range append([]int{0, 1, most}, wrong...) {
			if d.Insert(h, id) || d.Set(h, 0, id) || d.Set(h, id, 0) {
				t.Errorf("a nil one takes %#x, %d", h, id)
			}
		}
		if len(d.Find(h)) != 0 || d.Len() != 0 {
			t.Errorf("a nil one has %v", d.Find(h))
		}
	}
	for _, x := range []int{math.MinInt, -1, 0, 3, 4, 7, 8, math.MaxInt} {
		if id, tag, ok := d.At(x, 0); id != 0 || tag != 0 || ok {
			t.Errorf("At(%d, 0) of a nil one", x)
		}
		if id, tag, ok := d.At(0, x); id != 0 || tag != 0 || ok {
			t.Errorf("At(0, %d) of a nil one", x)
		}
	}
}

// P0.3: what Find answers is new memory, its spare room too.
func TestFindAnswersNew(t *testing.T) {
	d, h := New(), made(6, 9)
	for id := range 5 {
		d.Insert(h, id)
	}
	a, b, was := d.Find(h), d.Find(h), look(d)
	for i := range a[:cap(a)] {
		a[:cap(a)][i] = -7
	}
	if !slices.Equal(b, []int{0, 1, 2, 3, 4}) || !slices.Equal(d.Find(h), b) || look(d) != was {
		t.Errorf("Find: %v, then %v", b, d.Find(h))
	}
}

// P0.5: each one is by itself, and of the same calls the same is answered.
func TestApart(t *testing.T) {
	for seed := range int64(20) {
		a, b, none := New(), New(), New()
		r := rand.New(rand.NewSource(seed))
		for range 50 {
			h, id := r.Uint64(), r.Intn(9)
			if a.Insert(h, id) != b.Insert(h, id) || a.Set(h, id, 5) != b.Set(h, id, 5) || look(a) != look(b) {
				t.Fatalf("%v and %v", look(a), look(b))
			}
		}
		if none.Len() != 0 || look(none) != look(New()) {
			t.Fatal("another one is changed")
		}
	}
}
