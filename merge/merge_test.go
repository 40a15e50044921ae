package merge

import (
	"fmt"
	"math"
	"math/rand"
	"slices"
	"strings"
	"testing"
	"unsafe"

	"loess/api"
	"loess/hash"
	"loess/sorted"
)

// number answers a record of a number.
func number(k string, n int64) api.Rec {
	return api.Rec{Key: k, Val: api.Raw{Kind: api.VNum, N: n}}
}

// text answers a record of a text.
func text(k, s string) api.Rec {
	return api.Rec{Key: k, Val: api.Raw{Kind: api.VText, S: s}}
}

// gone answers a record of a key that has no value any more.
func gone(k string) api.Rec {
	return api.Rec{Key: k, Gone: true}
}

// keys are texts, of one hash some of them; some may be no keys.
func keys() []string {
	l := []string{
		"red", "blue", "green", "a", "b", "c", "d", "e", "A", "\x00", "\x00\x00", "a\x00", "\u00e9", "\u2603",
		// Of each of these rows all texts have one hash: bytes with which no rune begins are one rune.
		"\x80", "\x81", "\xc0", "\xff", "\xef\xbf\xbd",
		"\x80\x80", "\xff\x80", "\x80\xff", "\xfe\xef\xbf\xbd",
		"", strings.Repeat("k", 16), strings.Repeat("k", 17), strings.Repeat("k", 1000),
	}
	for i := range 12 {
		l = append(l, fmt.Sprint("key", i))
	}
	return l
}

// kinds are records of k of all kinds; some may not be.
func kinds(k string) []api.Rec {
	return []api.Rec{
		number(k, 0), number(k, -1), number(k, math.MaxInt64), number(k, math.MinInt64),
		text(k, ""), text(k, "sky"), text(k, strings.Repeat("x", 24)), gone(k), gone(k), gone(k),
		{Key: k}, {Key: k, Val: api.Raw{Kind: 3, N: 1, S: "s"}}, {Key: k, Val: api.Raw{Kind: -1}}, text(k, "\xff"), text(k, strings.Repeat("x", 99)),
		{Key: k, Gone: true, Val: api.Raw{Kind: api.VNum, N: 7}}, {Key: k, Gone: true, Val: api.Raw{Kind: api.VText, S: "s"}},
	}
}

// drawn answers n records as r draws them, of at most m keys.
func drawn(r *rand.Rand, n, m int) []api.Rec {
	all := keys()
	var l []api.Rec
	for range n {
		k := kinds(all[r.Intn(min(m, len(all)))])
		if r.Intn(4) == 0 {
			l = append(l, k[r.Intn(len(k))])
		} else {
			l = append(l, number(k[0].Key, int64(r.Intn(1000))))
		}
	}
	r.Shuffle(len(l), func(i, j int) { l[i], l[j] = l[j], l[i] })
	return l
}

// sources answers up to n lists as r draws them, of up to m records each; some have none.
func sources(r *rand.Rand, n, m int) [][]api.Rec {
	var out [][]api.Rec
	for range r.Intn(n + 1) {
		switch r.Intn(6) {
		case 0:
			out = append(out, nil)
		case 1:
			out = append(out, []api.Rec{})
		default:
			out = append(out, drawn(r, r.Intn(m+1), 1+r.Intn(50)))
		}
	}
	return out
}

// lists answers sources of many kinds.
func lists() [][][]api.Rec {
	r := rand.New(rand.NewSource(23))
	out := [][][]api.Rec{nil, {}, {nil}, {nil, {}, nil}}
	for range 300 {
		out = append(out, sources(r, 6, 30))
	}
	return out
}

// mark answers a text that stands among the marks of other keys as k stands among these keys: by hash, then byte by byte.
func mark(k string) string {
	return fmt.Sprintf("%016x", hash.Of(k)) + k
}

// distinct answers the keys of l in order, each once.
func distinct(l []api.Rec) []string {
	var marks []string
	for _, r := range l {
		marks = append(marks, mark(r.Key))
	}
	slices.Sort(marks)
	var out []string
	for _, m := range slices.Compact(marks) {
		out = append(out, m[16:])
	}
	return out
}

// sortedAsRuled answers l, key by key, and the records of each key as they stand in l.
func sortedAsRuled(l []api.Rec) []api.Rec {
	of := map[string][]api.Rec{}
	for _, r := range l {
		of[r.Key] = append(of[r.Key], r)
	}
	var out []api.Rec
	for _, k := range distinct(l) {
		out = append(out, of[k]...)
	}
	return out
}

// mergedAsRuled answers of each key the record that counts, in order.
func mergedAsRuled(srcs [][]api.Rec) []api.Rec {
	var out []api.Rec
	for _, k := range distinct(slices.Concat(srcs...)) {
		for _, src := range srcs {
			if i := slices.IndexFunc(src, func(r api.Rec) bool { return r.Key == k }); i >= 0 {
				out = append(out, src[i])
				break
			}
		}
	}
	return out
}

// pairsAsRuled answers the pairs of l, without those that are gone.
func pairsAsRuled(l []api.Rec) []api.Pair {
	var out []api.Pair
	for _, r := range l {
		if !r.Gone {
			out = append(out, api.Pair{Key: r.Key, Val: r.Val})
		}
	}
	return out
}

// told answers what a message says of x: quoted, and not without end.
func told(x any) string {
	return fmt.Sprintf("%.600q", fmt.Sprint(x))
}

// isEmpty holds that m tells nothing any more, however often it is asked.
func isEmpty(t *testing.T, m *Merge) {
	t.Helper()
	for range 3 {
		if r, ok := m.Next(); ok || r != (api.Rec{}) {
			t.Fatalf("Next behind the last one: %s, %v", told(r), ok)
		}
	}
}

// tells holds that m's Nexts tell just l.
func tells(t *testing.T, m *Merge, l []api.Rec) {
	t.Helper()
	for i, want := range l {
		if r, ok := m.Next(); !ok || r != want {
			t.Fatalf("Next %d of %d: %s, %v, not %s", i, len(l), told(r), ok, told(want))
		}
	}
	isEmpty(t, m)
}

// isMerged holds that New and All of srcs tell what counts of them.
func isMerged(t *testing.T, srcs ...[]api.Rec) {
	t.Helper()
	want := mergedAsRuled(srcs)
	m := New(srcs...)
	if m == nil {
		t.Fatalf("New(%s): nil", told(srcs))
	}
	tells(t, m, want)
	if got := All(srcs...); !slices.Equal(got, pairsAsRuled(want)) {
		t.Fatalf("All(%s): %s, not %s", told(srcs), told(got), told(pairsAsRuled(want)))
	}
}

// isSorted holds that Sort answers l's records in order.
func isSorted(t *testing.T, l []api.Rec) {
	t.Helper()
	if got := Sort(l); !slices.Equal(got, sortedAsRuled(l)) {
		t.Fatalf("Sort(%s): %s, not %s", told(l), told(got), told(sortedAsRuled(l)))
	}
}

// clones answers srcs in memory of its own.
func clones(srcs [][]api.Rec) [][]api.Rec {
	var out [][]api.Rec
	for _, l := range srcs {
		out = append(out, slices.Clone(l))
	}
	return out
}

// spoil writes something else over all of l, its spare room too.
func spoil[T any](l []T, x T) {
	for i := range l[:cap(l)] {
		l[:cap(l)][i] = x
	}
}

// P23.1: the order is sorted.Less', by hash, and of one hash byte by byte; by their keys alone these would stand otherwise.
func TestSortWrittenOut(t *testing.T) {
	got := Sort([]api.Rec{number("a", 1), text("blue", "sky"), gone("red"), number("a", 0), text("red", ""), number("a", 1)})
	want := []api.Rec{gone("red"), text("red", ""), number("a", 1), number("a", 0), number("a", 1), text("blue", "sky")}
	if !slices.Equal(got, want) {
		t.Errorf("Sort: %s", told(got))
	}
	got = Sort([]api.Rec{number("\xff", 1), number("\x80", 2), number("\xef\xbf\xbd", 3), number("\x81", 4), number("\x80", 5)})
	want = []api.Rec{number("\x80", 2), number("\x80", 5), number("\x81", 4), number("\xef\xbf\xbd", 3), number("\xff", 1)}
	if !slices.Equal(got, want) {
		t.Errorf("Sort of one hash: %s", told(got))
	}
}

// P23.1: Sort by sorted.Less, stays as it was where it stands in order, and forgets none.
func TestSort(t *testing.T) {
	r := rand.New(rand.NewSource(1))
	for n := range 200 {
		l := drawn(r, n, 1+r.Intn(50))
		isSorted(t, l)
		once := Sort(l)
		for i := 1; i < len(once); i++ {
			if sorted.Less(once[i].Key, once[i-1].Key) {
				t.Fatalf("Sort(%s): %s", told(l), told(once))
			}
		}
		if !slices.Equal(Sort(once), once) {
			t.Fatalf("Sort of %s: %s", told(once), told(Sort(once)))
		}
		slices.Reverse(once)
		isSorted(t, once)
	}
}

// P23.1: those of one key stay in the order they had, however many there are.
func TestSortStays(t *testing.T) {
	for _, m := range []int{1, 2, 3, 7, 20} {
		var l []api.Rec
		for i := range 3000 {
			l = append(l, number(keys()[i*i%m], int64(i)))
		}
		isSorted(t, l)
		for i, r := range Sort(l) {
			if m == 1 && r.Val.N != int64(i) {
				t.Fatalf("Sort of one key: %d stands at %d", r.Val.N, i)
			}
		}
	}
}

// P23.1: long lists.
func TestLong(t *testing.T) {
	r := rand.New(rand.NewSource(2))
	var l []api.Rec
	for i := range 50000 {
		l = append(l, number(fmt.Sprint("key", r.Intn(20000)), int64(i)))
	}
	got, want := Sort(l), sortedAsRuled(l)
	if !slices.Equal(got, want) {
		t.Error("Sort of a long list")
	}
	// Of each key the first one counts, whichever source of these it stands in.
	newest := slices.CompactFunc(want, func(a, b api.Rec) bool { return a.Key == b.Key })
	tells(t, New(l), newest)
	tells(t, New(l[:1], l[1:30000], nil, l[30000:]), newest)
	if got := All(l[:20000], l[20000:]); !slices.Equal(got, pairsAsRuled(newest)) {
		t.Error("All of long lists")
	}
}

// P23.1: what Next and All tell, written out.
func TestNextWrittenOut(t *testing.T) {
	first := []api.Rec{text("blue", "new"), gone("red"), text("blue", "second")}
	second := []api.Rec{number("red", 1), number("a", 2), gone("a")}
	third := []api.Rec{gone("blue"), number("a", 3), number("\x81", 4), number("\x80", 5)}
	ahead := []api.Rec{gone("red"), number("a", 2), text("blue", "new")}
	tells(t, New(first, second), ahead)
	if got := All(first, second); !slices.Equal(got, []api.Pair{{Key: "a", Val: number("", 2).Val}, {Key: "blue", Val: text("", "new").Val}}) {
		t.Errorf("All: %s", told(got))
	}
	tells(t, New(second, first), []api.Rec{number("red", 1), number("a", 2), text("blue", "new")})
	isMerged(t, first, second, third)
	isMerged(t, third, second, first)
	// A key that the newest source says to be gone is not in All, whatever older ones have.
	if got := All([]api.Rec{gone("a")}, []api.Rec{number("a", 1)}, []api.Rec{number("a", 2)}); len(got) != 0 {
		t.Errorf("All of what is gone: %s", told(got))
	}
	if got := All([]api.Rec{number("a", 1)}, []api.Rec{gone("a")}); !slices.Equal(got, []api.Pair{{Key: "a", Val: number("", 1).Val}}) {
		t.Errorf("All of what is there again: %s", told(got))
	}
}

// P23.1: sources of many kinds, in both orders.
func TestMerge(t *testing.T) {
	var older, twice, hidden, shown int
	for _, srcs := range lists() {
		isMerged(t, srcs...)
		back := slices.Clone(srcs)
		slices.Reverse(back)
		isMerged(t, back...)
		l := mergedAsRuled(srcs)
		if !slices.Equal(l, mergedAsRuled(back)) {
			older++
		}
		if len(l) < len(slices.Concat(srcs...)) {
			twice++
		}
		hidden += len(l) - len(pairsAsRuled(l))
		shown += len(pairsAsRuled(l))
	}
	if older < 100 || twice < 100 || hidden < 300 || shown < 1000 {
		t.Errorf("the sources are poor: %d, %d, %d, %d", older, twice, hidden, shown)
	}
}

// P23.1: of one source the first one of a key counts, in any order.
func TestOneSource(t *testing.T) {
	r := rand.New(rand.NewSource(3))
	for n := range 100 {
		isMerged(t, drawn(r, n, 1+r.Intn(20)))
	}
	for _, l := range [][]api.Rec{
		{number("a", 1), number("a", 2), number("a", 3)}, {gone("a"), number("a", 2)}, {number("a", 1), gone("a")},
	} {
		tells(t, New(l), l[:1])
		tells(t, New(l[1:], l), l[1:2])
	}
}

// P23.1: of one key in many sources the newest one's counts, wherever it begins to be there.
func TestManySources(t *testing.T) {
	var srcs [][]api.Rec
	for i := range 1000 {
		srcs = append(srcs, []api.Rec{number("a", int64(i))})
	}
	for i := 0; i < len(srcs); i += 97 {
		tells(t, New(srcs[i:]...), srcs[i])
		if got := All(srcs[i:]...); len(got) != 1 || got[0].Val.N != int64(i) {
			t.Errorf("All: %s", told(got))
		}
		srcs[i] = nil
		tells(t, New(srcs[i:]...), srcs[i+1])
	}
	// Each source has a key of its own, and one that all of them have.
	for i := range srcs {
		srcs[i] = []api.Rec{number("all", int64(i)), number(fmt.Sprint("key", i), int64(i))}
	}
	isMerged(t, srcs...)
}

// P23.1: keys of one hash are keys of their own.
func TestOneHash(t *testing.T) {
	var l, m []api.Rec
	for i := range 64 {
		l = append(l, number(string([]byte{byte(0xff - i)}), int64(i)))
		m = append(m, number(string([]byte{byte(0xc0 - i)}), int64(-i)))
	}
	isSorted(t, append(slices.Clone(l), m...))
	isMerged(t, l, m)
	isMerged(t, m, l)
	if n := len(All(l, m)); n != 127 {
		t.Errorf("%d keys", n)
	}
}

// P23.1: records that may not be are laid together as others are.
func TestBad(t *testing.T) {
	for _, k := range []string{"a", "", strings.Repeat("k", 17), strings.Repeat("\x80", 1<<16)} {
		for _, r := range kinds(k) {
			isSorted(t, []api.Rec{number("red", 1), r, number("blue", 1), number(k, 1)})
			isMerged(t, []api.Rec{number("red", 1), r, number("blue", 1)}, []api.Rec{number(k, 1)})
			isMerged(t, []api.Rec{number(k, 1)}, []api.Rec{r})
		}
	}
	isSorted(t, make([]api.Rec, 100))
	tells(t, New(make([]api.Rec, 100), make([]api.Rec, 1000)), make([]api.Rec, 1))
	if got := All(make([]api.Rec, 100)); !slices.Equal(got, make([]api.Pair, 1)) {
		t.Errorf("All: %s", told(got))
	}
}

// P23.1, P0.4: no records, of no sources or of such as have none.
func TestEmpty(t *testing.T) {
	if len(Sort(nil)) != 0 || len(Sort([]api.Rec{})) != 0 {
		t.Error("Sort of none")
	}
	for _, srcs := range [][][]api.Rec{nil, {}, {nil}, {{}}, {nil, {}, nil}, make([][]api.Rec, 1000)} {
		isEmpty(t, New(srcs...))
		if got := All(srcs...); len(got) != 0 {
			t.Errorf("All: %s", told(got))
		}
	}
	tells(t, New(nil, []api.Rec{number("a", 1)}, nil), []api.Rec{number("a", 1)})
}

// P23.1: a nil *Merge.
func TestNil(t *testing.T) {
	isEmpty(t, nil)
}

// P0.1: one that no New made does not panic.
func TestZero(t *testing.T) {
	isEmpty(t, &Merge{})
}

// P23.1: sorted.New takes what All tells of records that may be.
func TestIsSorted(t *testing.T) {
	r := rand.New(rand.NewSource(4))
	for range 200 {
		var srcs [][]api.Rec
		for range 3 {
			var l []api.Rec
			for i := range r.Intn(60) {
				k := fmt.Sprint(r.Intn(80))
				l = append(l, []api.Rec{number(k, int64(i)), text("\x80"+k, k), text("\xff"+k, k), gone(k)}[r.Intn(4)])
			}
			srcs = append(srcs, l)
		}
		isMerged(t, srcs...)
		l := All(srcs...)
		if s, err := sorted.New(l); err != api.OK || !slices.Equal(s.List(), l) {
			t.Fatalf("New(%s): %v", told(l), err)
		}
	}
}

// P0.3: what is handed in is not changed, its spare room neither.
func TestStays(t *testing.T) {
	for n, srcs := range lists() {
		for i, l := range srcs {
			srcs[i] = append(slices.Clone(l), number("spare", 1), number("room", 2))[:len(l)]
		}
		// Whole lists, with their spare room, are held against what they were.
		whole := func() [][]api.Rec {
			var out [][]api.Rec
			for _, l := range srcs {
				out = append(out, slices.Clone(l[:len(l)+2]))
			}
			return out
		}
		spare := append(slices.Clone(srcs), []api.Rec{number("more", 3)}, nil)
		was := whole()
		isMerged(t, spare[:len(srcs)]...)
		for _, l := range srcs {
			isSorted(t, l)
		}
		if now := whole(); !slices.EqualFunc(was, now, slices.Equal) {
			t.Errorf("%d: %s has become %s", n, told(was), told(now))
		}
		for i, l := range srcs {
			if len(spare[i]) != len(l) || len(l) > 0 && &spare[i][0] != &l[0] {
				t.Errorf("%d: source %d is another one", n, i)
			}
		}
		if more := spare[len(srcs):]; !slices.Equal(more[0], []api.Rec{number("more", 3)}) || more[1] != nil {
			t.Errorf("%d: the spare room of the list of sources has become %s", n, told(more))
		}
	}
}

// P0.3: nothing of what is handed in is kept: neither a source nor the list of them.
func TestNotKept(t *testing.T) {
	for _, srcs := range lists() {
		want := mergedAsRuled(clones(srcs))
		m, half := New(srcs...), New(srcs...)
		mid := len(want) / 2
		for range mid {
			half.Next()
		}
		l := slices.Concat(srcs...)
		got, inOrder := Sort(l), sortedAsRuled(l)
		spoil(l, number("!", 1))
		for _, src := range srcs {
			spoil(src, number("!", 1))
		}
		spoil(srcs, []api.Rec{number("!", 2)})
		tells(t, m, want)
		tells(t, half, want[mid:])
		if !slices.Equal(got, inOrder) {
			t.Error("Sort's answer shares memory with its list")
		}
	}
}

// P0.3: nothing of the texts that are handed in is kept.
func TestTextsStay(t *testing.T) {
	k, v := []byte("red"), []byte("value")
	l := []api.Rec{text(unsafe.String(&k[0], len(k)), unsafe.String(&v[0], len(v))), number("blue", 1)}
	s, m, a := Sort(l), New(l), All(l)
	copy(k, "xxx")
	copy(v, "xxxxx")
	want := []api.Rec{text("red", "value"), number("blue", 1)}
	if !slices.Equal(s, want) || !slices.Equal(a, pairsAsRuled(want)) {
		t.Errorf("they have become %s, %s", told(s), told(a))
	}
	tells(t, m, want)
}

// P0.3: answers are new memory, spare room too: whoever writes into one changes no other one, and no Merge.
func TestAnswersAreNew(t *testing.T) {
	for n, srcs := range lists() {
		m := New(srcs...)
		l := slices.Concat(srcs...)
		s, u := Sort(l), Sort(l)
		wasSort := slices.Clone(u[:cap(u)])
		spoil(s, number("!", 1))
		if !slices.Equal(u[:cap(u)], wasSort) {
			t.Errorf("%d: two answers of Sort share memory", n)
		}
		a, b := All(srcs...), All(srcs...)
		wasAll := slices.Clone(b[:cap(b)])
		spoil(a, api.Pair{Key: "!"})
		if !slices.Equal(b[:cap(b)], wasAll) {
			t.Errorf("%d: two answers of All share memory", n)
		}
		isSorted(t, l)
		isMerged(t, srcs...)
		tells(t, m, mergedAsRuled(srcs))
	}
}

// apart tells whether texts share memory with those that were seen ahead of them.
type apart map[*byte]bool

// see holds that s is in memory that was not seen yet.
func (a apart) see(t *testing.T, s string) {
	t.Helper()
	// Texts of one byte the language itself makes from one memory.
	if len(s) < 2 {
		return
	}
	if a[unsafe.StringData(s)] {
		t.Fatalf("%.40q is told twice from one memory", s)
	}
	a[unsafe.StringData(s)] = true
}

// P0.3: the texts of what is answered are new memory, too.
func TestTextsAreNew(t *testing.T) {
	var l []api.Rec
	seen := apart{}
	for i := range 50 {
		r := text(strings.Clone(fmt.Sprint("key", i%20)), strings.Clone(fmt.Sprint("value", i)))
		seen.see(t, r.Key)
		seen.see(t, r.Val.S)
		l = append(l, r)
	}
	m := New(l[:25], l[25:])
	for _, r := range m.left {
		seen.see(t, r.Key)
		seen.see(t, r.Val.S)
	}
	for r, ok := m.Next(); ok; r, ok = m.Next() {
		seen.see(t, r.Key)
		seen.see(t, r.Val.S)
	}
	for range 2 {
		// The last two share their texts' memory with one another, but not what is answered of them.
		for _, r := range Sort(append(slices.Clone(l), l[0], l[0])) {
			seen.see(t, r.Key)
			seen.see(t, r.Val.S)
		}
		for _, p := range All(l[25:], l[:25]) {
			seen.see(t, p.Key)
			seen.see(t, p.Val.S)
		}
	}
}

// P0.5: each Merge is by itself, in whatever turn they are asked, and other calls between change nothing.
func TestApart(t *testing.T) {
	r := rand.New(rand.NewSource(5))
	var all []*Merge
	var left [][]api.Rec
	for _, srcs := range lists() {
		all = append(all, New(srcs...))
		left = append(left, mergedAsRuled(srcs))
	}
	for range 10000 {
		i := r.Intn(len(all))
		if len(left[i]) == 0 {
			isEmpty(t, all[i])
			continue
		}
		if got, ok := all[i].Next(); !ok || got != left[i][0] {
			t.Fatalf("Next: %s, %v, not %s", told(got), ok, told(left[i][0]))
		}
		left[i] = left[i][1:]
		Sort(left[i])
		All(left[i], left[r.Intn(len(left))])
	}
	for i, m := range all {
		tells(t, m, left[i])
	}
}
