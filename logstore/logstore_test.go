package logstore

import (
	"fmt"
	"maps"
	"math"
	"math/rand"
	"slices"
	"strings"
	"testing"
	"unsafe"

	"loess/api"
	"loess/hash"
)

// number answers a record of a number.
func number(k string, n int64) api.Rec {
	return api.Rec{Key: k, Val: api.Raw{Kind: api.VNum, N: n}}
}

// text answers a record of a text.
func text(k, s string) api.Rec {
	return api.Rec{Key: k, Val: api.Raw{Kind: api.VText, S: s}}
}

// gone answers a record of what is gone.
func gone(k string) api.Rec {
	return api.Rec{Key: k, Gone: true}
}

// bad are records that may not be, of the key a where it is not the key that may not be.
func bad() []api.Rec {
	l := []api.Rec{
		{}, {Key: "a"}, {Key: "a", Val: api.Raw{N: 1}}, {Key: "a", Val: api.Raw{S: "s"}},
		{Key: "a", Gone: true, Val: api.Raw{N: 1}}, {Key: "a", Gone: true, Val: api.Raw{S: "s"}}, {Key: "a", Gone: true, Val: api.Raw{Kind: api.VNum}}, {Key: "a", Gone: true, Val: api.Raw{Kind: -1}},
		{Key: "a", Val: api.Raw{Kind: api.VNum, S: "s"}}, {Key: "a", Val: api.Raw{Kind: api.VText, N: 1}},
		{Key: "a", Val: api.Raw{Kind: 3}}, {Key: "a", Val: api.Raw{Kind: -1}}, {Key: "a", Val: api.Raw{Kind: math.MaxInt}}, {Key: "a", Val: api.Raw{Kind: math.MinInt}},
		text("a", strings.Repeat("x", 25)), text("a", "\xff"), text("a", "\xed\xa0\x80"), text("a", strings.Repeat("x", 1<<16+1)),
	}
	for _, k := range []string{"", strings.Repeat("k", 17), strings.Repeat("\x80", 64), strings.Repeat("k", 1<<16+1)} {
		l = append(l, gone(k), number(k, 0), text(k, "s"))
	}
	return l
}

// twins answers n keys of one hash: bytes with which no rune begins are the same rune, and so is U+FFFD itself.
func twins(n int) []string {
	l := []string{"\xef\xbf\xbd"}
	for c := 0xff; len(l) < n; c-- {
		l = append(l, string([]byte{byte(c)}))
	}
	return l
}

// cousins answers two keys of one tag and the same two buckets, but of other hashes, and one of the same tag in two other buckets.
func cousins(t *testing.T) (a, b, far string) {
	t.Helper()
	first, others := map[[3]int]string{}, map[int][]string{}
	for i := range 100000 {
		k := fmt.Sprint("cousin", i)
		h := hash.Of(k)
		x, y := pair(k)
		at := [3]int{tagOf(k), min(x, y), max(x, y)}
		was, has := first[at]
		if has && hash.Of(was) != h {
			for _, z := range others[tagOf(k)] {
				if p, q := pair(z); p != x && q != x {
					return was, k, z
				}
			}
		}
		first[at] = k
		others[tagOf(k)] = append(others[tagOf(k)], k)
	}
	t.Fatal("no such keys")
	return "", "", ""
}

// tagOf and pair say of a key's hash what the promises of hash say.
func tagOf(k string) int { return int(hash.Of(k) / 256 % 32768) }

func pair(k string) (int, int) {
	a := int(hash.Of(k) % 8)
	return a, a ^ (1 + tagOf(k)%7)
}

// alike tells whether an entry of k has j's tag and lies in j's buckets.
func alike(k, j string) bool {
	a, _ := pair(k)
	b, c := pair(j)
	return tagOf(k) == tagOf(j) && (a == b || a == c)
}

// fits tells whether the keys find places: for no choice of buckets do more of them belong in these alone than these have slots (Hall's theorem).
func fits(keys []string) bool {
	for set := range 1 << 8 {
		need, room := 0, 0
		for b := range 8 {
			room += 4 * (set >> b & 1)
		}
		for _, k := range keys {
			a, b := pair(k)
			need += set >> a & 1 & (set >> b)
		}
		if need > room {
			return false
		}
	}
	return true
}

// wrong is bad, made once.
var wrong = bad()

// mayAsRuled tells whether r is none of those that may not be, as the tests make them.
func mayAsRuled(r api.Rec) bool {
	return !slices.Contains(wrong, r)
}

// listed answers the records of m as List has to tell them.
func listed(m map[string]api.Rec) []api.Rec {
	var l []api.Rec
	for _, k := range slices.Sorted(maps.Keys(m)) {
		l = append(l, m[k])
	}
	return l
}

// look answers what Slot tells of all slots.
func look(l *Log) [8][4]api.Rec {
	var all [8][4]api.Rec
	for b := range all {
		for s := range all[b] {
			all[b][s], _ = l.Slot(b, s)
		}
	}
	return all
}

// check fails if l does not tell just the records of m, in all ways.
func check(t *testing.T, l *Log, m map[string]api.Rec) {
	t.Helper()
	if got := l.List(); !slices.Equal(got, listed(m)) {
		t.Fatalf("List: %v, not %v", got, listed(m))
	}
	if l.Len() != len(m) {
		t.Fatalf("Len: %d, not %d", l.Len(), len(m))
	}
	for k, r := range m {
		if got, ok := l.Get(k); !ok || got != r {
			t.Fatalf("Get(%q): %v, %v, not %v", k, got, ok, r)
		}
	}
	in := map[string]api.Rec{}
	for b := range 8 {
		for s := range 4 {
			r, ok := l.Slot(b, s)
			if !ok {
				if r != (api.Rec{}) {
					t.Fatalf("Slot(%d, %d): %v, false", b, s, r)
				}
				continue
			}
			if x, y := pair(r.Key); b != x && b != y {
				t.Fatalf("Slot(%d, %d): %v, whose buckets are %d and %d", b, s, r, x, y)
			}
			if _, twice := in[r.Key]; twice {
				t.Fatalf("Slot(%d, %d): %v once more", b, s, r)
			}
			in[r.Key] = r
		}
	}
	if !maps.Equal(in, m) {
		t.Fatalf("there lie %v, not %v", in, m)
	}
}

// asked fails if Get or Reads of k are not as m lets them be.
func asked(t *testing.T, l *Log, m map[string]api.Rec, k string) {
	t.Helper()
	want, has := m[k]
	if got, ok := l.Get(k); ok != has || got != want {
		t.Fatalf("Get(%q): %v, %v, not %v", k, got, ok, want)
	}
	n := 0
	for j := range m {
		if alike(j, k) {
			n++
		}
	}
	if got := l.Reads(k); got != n {
		t.Fatalf("Reads(%q): %d, not %d", k, got, n)
	}
}

// put puts r, and fails if it is not as m lets it, or if an error changes anything; m is brought up to it.
func put(t *testing.T, l *Log, m map[string]api.Rec, r api.Rec) api.Errno {
	t.Helper()
	_, had := m[r.Key]
	want, was := api.OK, look(l)
	switch {
	case !mayAsRuled(r):
		want = api.ErrForm
	case !had && !fits(append(slices.Collect(maps.Keys(m)), r.Key)):
		want = api.ErrLarge
	default:
		m[r.Key] = r
	}
	if got := l.Put(r); got != want {
		t.Fatalf("Put(%.100q) behind %v: %v, not %v", fmt.Sprint(r), listed(m), got, want)
	}
	if want != api.OK && look(l) != was {
		t.Fatalf("Put(%.100q) tells %v and changed something", fmt.Sprint(r), want)
	}
	check(t, l, m)
	return want
}

// drawn answers a record of k by r: a number, a text, or what is gone.
func drawn(r *rand.Rand, k string) api.Rec {
	switch r.Intn(3) {
	case 0:
		return number(k, int64(r.Uint64()))
	case 1:
		return text(k, strings.Repeat("é", r.Intn(13)))
	}
	return gone(k)
}

// P18.1: long runs of Puts of all kinds, of keys that crowd and keys that don't.
func TestRandom(t *testing.T) {
	all := append(twins(20), "a")
	a, b, far := cousins(t)
	all = append(all, a, b, far)
	for i := range 60 {
		all = append(all, fmt.Sprint("key", i))
	}
	full, many := 0, 0
	for seed := range int64(150) {
		r := rand.New(rand.NewSource(seed))
		l, m := New(), map[string]api.Rec{}
		keys := slices.Clone(all)
		r.Shuffle(len(keys), func(i, j int) { keys[i], keys[j] = keys[j], keys[i] })
		keys = keys[:1+r.Intn(len(keys))]
		for range 80 {
			x := drawn(r, keys[r.Intn(len(keys))])
			if r.Intn(8) == 0 {
				x = wrong[r.Intn(len(wrong))]
			}
			if put(t, l, m, x) == api.ErrLarge {
				full++
			}
			asked(t, l, m, all[r.Intn(len(all))])
		}
		for _, k := range all {
			asked(t, l, m, k)
		}
		if l.Len() > 26 {
			many++
		}
	}
	if full < 500 || many < 20 {
		t.Errorf("the draws are poor: %d, %d", full, many)
	}
}

// P18.1: the record of a key is the last one, of whatever kind it is and the one ahead of it was; it lies where it lay.
func TestLast(t *testing.T) {
	kinds := []api.Rec{gone("k"), number("k", 0), number("k", -1), number("k", math.MaxInt64), number("k", math.MinInt64), text("k", ""), text("k", "\x00"), text("k", strings.Repeat("x", 24))}
	for _, one := range kinds {
		for _, two := range kinds {
			l, m := New(), map[string]api.Rec{}
			put(t, l, m, number("j", 7))
			put(t, l, m, one)
			was := look(l)
			for b := range was {
				for s := range was[b] {
					if was[b][s].Key == "k" {
						was[b][s] = two
					}
				}
			}
			put(t, l, m, two)
			put(t, l, m, two)
			if look(l) != was || l.Len() != 2 {
				t.Fatalf("%v behind %v: %v", two, one, look(l))
			}
		}
	}
}

// P18.1: what is gone is there, as a record.
func TestGone(t *testing.T) {
	l, m := New(), map[string]api.Rec{}
	put(t, l, m, number("k", 1))
	put(t, l, m, gone("k"))
	if r, ok := l.Get("k"); !ok || r != gone("k") || l.Len() != 1 || l.Reads("k") != 1 {
		t.Errorf("Get of what is gone: %v, %v", r, ok)
	}
	put(t, l, m, gone("never"))
	if r, ok := l.Get("never"); !ok || r != gone("never") || l.Len() != 2 {
		t.Errorf("Get of what was never there: %v, %v", r, ok)
	}
}

// P18.1: of one hash eight find places; a key that is there can be put anew behind that, and keys of other hashes find places.
func TestOneHash(t *testing.T) {
	keys := twins(12)
	for turn := range keys {
		l, m := New(), map[string]api.Rec{}
		row := append(slices.Clone(keys[turn:]), keys[:turn]...)
		for i, k := range row {
			want := api.OK
			if i >= 8 {
				want = api.ErrLarge
			}
			if got := put(t, l, m, number(k, int64(i))); got != want {
				t.Fatalf("the key %d of one hash: %v", i, got)
			}
			for _, k := range keys {
				asked(t, l, m, k)
			}
		}
		for i, k := range row {
			want := api.OK
			if i >= 8 {
				want = api.ErrLarge
			}
			if got := put(t, l, m, gone(k)); got != want {
				t.Fatalf("the key %d of one hash, once more: %v", i, got)
			}
		}
		if l.Len() != 8 || l.Reads("\x80") != 8 || l.Reads("\xef\xbf\xbd") != 8 || put(t, l, m, text("other", "s")) != api.OK {
			t.Errorf("eight of one hash: %d, Reads %d", l.Len(), l.Reads("\x80"))
		}
	}
}

// P18.1: Reads counts entries of one tag in the two buckets, of other hashes too, and none of the same tag in other buckets; Get tells the keys apart.
func TestCousins(t *testing.T) {
	a, b, far := cousins(t)
	if hash.Of(a) == hash.Of(b) || tagOf(a) != tagOf(b) || tagOf(a) != tagOf(far) || !alike(a, b) || alike(a, far) {
		t.Fatalf("%q, %q and %q are no cousins", a, b, far)
	}
	l, m := New(), map[string]api.Rec{}
	for i, k := range []string{a, far, b} {
		put(t, l, m, number(k, int64(i)))
		for _, k := range []string{a, b, far, "k"} {
			asked(t, l, m, k)
		}
	}
	if l.Reads(a) != 2 || l.Reads(b) != 2 || l.Reads(far) != 1 || l.Reads("k") != 0 {
		t.Errorf("Reads: %d, %d, %d, %d", l.Reads(a), l.Reads(b), l.Reads(far), l.Reads("k"))
	}
	l, m = New(), map[string]api.Rec{}
	put(t, l, m, text(a, "one"))
	if r, ok := l.Get(b); ok || r != (api.Rec{}) || l.Reads(b) != 1 {
		t.Errorf("Get of a key that is not there: %v, %v, Reads %d", r, ok, l.Reads(b))
	}
}

// P18.1: whether keys find places does not hang on the order in which they come, and 32 can be there.
func TestOrder(t *testing.T) {
	most := 0
	for seed := range int64(60) {
		r := rand.New(rand.NewSource(seed))
		l, m := New(), map[string]api.Rec{}
		for i := 0; i < 400 && l.Len() < 32; i++ {
			put(t, l, m, drawn(r, fmt.Sprint(seed, " ", i)))
		}
		most = max(most, l.Len())
		all := l.List()
		for range 5 {
			r.Shuffle(len(all), func(i, j int) { all[i], all[j] = all[j], all[i] })
			o, err := Of(all)
			if err != api.OK {
				t.Fatalf("Of in another order: %v", err)
			}
			check(t, o, m)
		}
		if l.Len() == 32 {
			for i := range 50 {
				put(t, l, m, gone(fmt.Sprint("more", i)))
			}
			for k := range m {
				put(t, l, m, number(k, -5))
			}
		}
	}
	if most != 32 {
		t.Errorf("at most %d keys", most)
	}
}

// P18.1: ErrForm of what may not be, ahead of ErrLarge, and the key's record stays.
func TestWrong(t *testing.T) {
	for _, r := range wrong {
		l, m := New(), map[string]api.Rec{}
		if put(t, l, m, r) != api.ErrForm {
			t.Errorf("Put of %.100q", fmt.Sprint(r))
		}
		put(t, l, m, number("a", 1))
		if put(t, l, m, r) != api.ErrForm || l.Len() != 1 {
			t.Errorf("Put of %.100q, once more", fmt.Sprint(r))
		}
		asked(t, l, m, "a")
		asked(t, l, m, r.Key)
	}
	l, m := New(), map[string]api.Rec{}
	for _, k := range twins(8) {
		put(t, l, m, gone(k))
	}
	for _, k := range []string{"\x80", strings.Repeat("\x80", 17)} {
		if got := l.Put(api.Rec{Key: k, Gone: true, Val: api.Raw{N: 1}}); got != api.ErrForm {
			t.Errorf("Put of %q where there is no place and it may not be: %v", k, got)
		}
	}
	check(t, l, m)
}

// P18.1: Get and Reads of keys that may not be.
func TestWrongKeys(t *testing.T) {
	l, m := New(), map[string]api.Rec{}
	for i := range 20 {
		put(t, l, m, number(fmt.Sprint("key", i), 1))
	}
	for _, k := range []string{"", strings.Repeat("k", 17), strings.Repeat("\x80", 1000), strings.Repeat("key1", 1<<16)} {
		asked(t, l, m, k)
		asked(t, New(), nil, k)
		if _, ok := l.Get(k); ok {
			t.Errorf("Get(%.20q) is true", k)
		}
	}
}

// P18.1: Slot of places that there are none of.
func TestNoSuchSlots(t *testing.T) {
	l, m := New(), map[string]api.Rec{}
	for i := range 200 {
		put(t, l, m, number(fmt.Sprint("key", i), 1))
	}
	for _, x := range []int{-1, -8, -4, 8, 9, 32, math.MaxInt, math.MinInt, 1 << 32, -1 << 32} {
		for y := -1; y < 9; y++ {
			for _, p := range [][2]int{{x, y}, {y, x}, {x, x}, {y, 4}, {y, -1}, {8, y}} {
				if p[0] >= 0 && p[0] < 8 && p[1] >= 0 && p[1] < 4 {
					continue
				}
				if r, ok := l.Slot(p[0], p[1]); ok || r != (api.Rec{}) {
					t.Errorf("Slot(%d, %d): %v, %v", p[0], p[1], r, ok)
				}
			}
		}
	}
	check(t, l, m)
}

// P18.1: a new one is empty, of New and of Of.
func TestEmpty(t *testing.T) {
	a, err := Of(nil)
	b, err2 := Of([]api.Rec{})
	if err != api.OK || err2 != api.OK {
		t.Fatalf("Of no records: %v, %v", err, err2)
	}
	for _, l := range []*Log{New(), a, b} {
		if l == nil {
			t.Fatal("nil")
		}
		m := map[string]api.Rec{}
		check(t, l, m)
		asked(t, l, m, "k")
		asked(t, l, m, "")
		put(t, l, m, text("k", "s"))
		asked(t, l, m, "k")
	}
}

// P18.1: Of puts each in turn, so the last one of a key is there; a key that comes again needs no place.
func TestOf(t *testing.T) {
	keys := twins(8)
	var in []api.Rec
	m := map[string]api.Rec{}
	for i := range 50 {
		r := number(keys[i*3%8], int64(i))
		if i%7 == 6 {
			r = gone(r.Key)
		}
		in = append(in, r)
		m[r.Key] = r
	}
	l, err := Of(in)
	if err != api.OK {
		t.Fatalf("Of: %v", err)
	}
	check(t, l, m)
	put(t, l, m, gone("more"))
}

// P18.1: Of tells the first error that there is, and no Log.
func TestOfErrors(t *testing.T) {
	var nine []api.Rec
	for _, k := range twins(9) {
		nine = append(nine, gone(k))
	}
	bare := api.Rec{Key: "a"}
	for i, c := range []struct {
		l    []api.Rec
		want api.Errno
	}{
		{nine[:8], api.OK},
		{nine, api.ErrLarge},
		{append(slices.Clone(nine), number("k", 1)), api.ErrLarge},
		{append(slices.Clone(nine), bare), api.ErrLarge},
		{append([]api.Rec{bare}, nine...), api.ErrForm},
		{append(slices.Clone(nine[:8]), bare, nine[8]), api.ErrForm},
		{append(slices.Clone(nine[:8]), nine[3], nine[8], bare), api.ErrLarge},
		{append(slices.Clone(nine[:8]), nine[3], number(nine[4].Key, 1)), api.OK},
	} {
		l, err := Of(c.l)
		if err != c.want || (l == nil) != (c.want != api.OK) {
			t.Errorf("%d: Of: %v, %v, not %v", i, l, err, c.want)
		}
	}
	for _, r := range wrong {
		for _, in := range [][]api.Rec{{r}, {gone("k"), r}, {r, gone("k")}} {
			if l, err := Of(in); l != nil || err != api.ErrForm {
				t.Errorf("Of with %.100q: %v, %v", fmt.Sprint(r), l, err)
			}
		}
	}
}

// P18.1: a nil *Log.
func TestNil(t *testing.T) {
	var l *Log
	for _, r := range append(bad(), gone("k"), number("k", 1), text("k", "s")) {
		if got := l.Put(r); got != api.ErrDown {
			t.Errorf("Put(%.100q): %v", fmt.Sprint(r), got)
		}
	}
	for _, k := range []string{"", "k", strings.Repeat("k", 17), "\x80"} {
		if r, ok := l.Get(k); ok || r != (api.Rec{}) || l.Reads(k) != 0 {
			t.Errorf("Get(%q): %v, %v, Reads %d", k, r, ok, l.Reads(k))
		}
	}
	if len(l.List()) != 0 || l.Len() != 0 || look(l) != [8][4]api.Rec{} {
		t.Errorf("List: %v, Len: %d", l.List(), l.Len())
	}
	for b := -1; b < 9; b++ {
		if _, ok := l.Slot(b, 0); ok {
			t.Errorf("Slot(%d, 0) is true", b)
		}
	}
}

// P0.1: one that no New made does not panic.
func TestZero(t *testing.T) {
	var l Log
	if got := l.Put(gone("k")); got != api.ErrLarge {
		t.Errorf("Put: %v", got)
	}
	check(t, &l, map[string]api.Rec{})
	asked(t, &l, nil, "k")
}

// P0.3: a list that is handed in is neither changed nor kept, its spare room neither.
func TestArguments(t *testing.T) {
	all := []api.Rec{text("b", "one"), gone("a"), number("b", 2), text("c", "s"), text("spare", "room"), gone("room")}
	in := slices.Clone(all)
	l, err := Of(in[:4])
	if err != api.OK || !slices.Equal(in, all) {
		t.Fatalf("Of: %v, %v", err, in)
	}
	for i := range in {
		in[i] = number("x", -1)
	}
	check(t, l, map[string]api.Rec{"a": all[1], "b": all[2], "c": all[3]})
	b := []byte("key0")
	v := []byte("value")
	if got := l.Put(text(unsafe.String(&b[0], 4), unsafe.String(&v[0], 5))); got != api.OK {
		t.Fatal(got)
	}
	copy(b, "xxxx")
	copy(v, "xxxxx")
	if r, ok := l.Get("key0"); !ok || r != text("key0", "value") {
		t.Errorf("Put keeps what is handed in: %v, %v", r, ok)
	}
	b, v = []byte("key0"), []byte("other")
	if got := l.Put(text(unsafe.String(&b[0], 4), unsafe.String(&v[0], 5))); got != api.OK {
		t.Fatal(got)
	}
	copy(b, "xxxx")
	copy(v, "xxxxx")
	if r, ok := l.Get("key0"); !ok || r != text("key0", "other") {
		t.Errorf("Put anew keeps what is handed in: %v, %v", r, ok)
	}
}

// P0.3: what is answered is new memory.
func TestAnswers(t *testing.T) {
	l, m := New(), map[string]api.Rec{}
	for i := range 10 {
		put(t, l, m, text(fmt.Sprint("key", i), fmt.Sprint("value", i)))
	}
	a, b := l.List(), l.List()
	for i := range a[:cap(a)] {
		a[:cap(a)][i] = gone("x")
	}
	if !slices.Equal(b, listed(m)) {
		t.Errorf("List is changed by another: %v", b)
	}
	check(t, l, m)
	seen := map[*byte]bool{}
	fresh := func(r api.Rec) {
		for _, s := range []string{r.Key, r.Val.S} {
			if seen[unsafe.StringData(s)] {
				t.Fatalf("%q is told twice from one memory", s)
			}
			seen[unsafe.StringData(s)] = true
		}
	}
	for _, r := range l.recs {
		fresh(r)
	}
	for range 2 {
		for _, r := range l.List() {
			fresh(r)
		}
		for k := range m {
			r, _ := l.Get(k)
			fresh(r)
		}
		for b := range 8 {
			for s := range 4 {
				if r, ok := l.Slot(b, s); ok {
					fresh(r)
				}
			}
		}
	}
}

// P0.5: each one is by itself, and of the same calls the same is answered.
func TestApart(t *testing.T) {
	for seed := range int64(20) {
		a, b, none := New(), New(), New()
		r := rand.New(rand.NewSource(seed))
		for range 60 {
			x := drawn(r, fmt.Sprint("key", r.Intn(50)))
			if a.Put(x) != b.Put(x) || look(a) != look(b) {
				t.Fatalf("%v and %v", look(a), look(b))
			}
		}
		if none.Len() != 0 || look(none) != look(New()) {
			t.Fatal("another one is changed")
		}
	}
}
