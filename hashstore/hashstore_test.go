package hashstore

import (
	"bytes"
	"fmt"
	"maps"
	"math"
	"math/rand"
	"slices"
	"strings"
	"testing"
	"unsafe"

	"loess/api"
	"loess/hash"
	"loess/order"
)

// number answers a record of a number.
func number(k string, n int64) api.Rec {
	return api.Rec{Key: k, Val: api.Raw{Kind: api.VNum, N: n}}
}

// text answers a record of a text.
func text(k, s string) api.Rec {
	return api.Rec{Key: k, Val: api.Raw{Kind: api.VText, S: s}}
}

// gone answers a record of what is gone.
func gone(k string) api.Rec {
	return api.Rec{Key: k, Gone: true}
}

// kinds are records of k that may be, of all kinds.
func kinds(k string) []api.Rec {
	return []api.Rec{
		gone(k), number(k, 0), number(k, -1), number(k, math.MaxInt64), number(k, math.MinInt64),
		text(k, ""), text(k, "\x00"), text(k, "\u00e9\ufffd"), text(k, strings.Repeat("x", 24)),
	}
}

// bad are records that may not be, of the key a where it is not the key that may not be.
func bad() []api.Rec {
	l := []api.Rec{
		{}, {Key: "a"}, {Key: "a", Val: api.Raw{N: 1}}, {Key: "a", Val: api.Raw{S: "s"}},
		{Key: "a", Gone: true, Val: api.Raw{N: 1}}, {Key: "a", Gone: true, Val: api.Raw{S: "s"}}, {Key: "a", Gone: true, Val: api.Raw{Kind: api.VNum}},
		{Key: "a", Val: api.Raw{Kind: api.VNum, S: "s"}}, {Key: "a", Val: api.Raw{Kind: api.VText, N: 1}},
		{Key: "a", Val: api.Raw{Kind: 3}}, {Key: "a", Val: api.Raw{Kind: math.MaxInt}}, {Key: "a", Val: api.Raw{Kind: math.MinInt}},
		text("a", strings.Repeat("x", 25)), text("a", "\xff"), text("a", strings.Repeat("x", 1<<16+1)),
	}
	for _, k := range []string{"", strings.Repeat("k", 17), strings.Repeat("\x80", 64), strings.Repeat("k", 1<<16+1)} {
		l = append(l, gone(k), number(k, 0), text(k, "s"))
	}
	return l
}

// twins answers n keys of one hash: bytes with which no rune begins are the same rune, and so is U+FFFD itself.
func twins(n int) []string {
	l := []string{"\xef\xbf\xbd"}
	for c := 0xff; len(l) < n; c-- {
		l = append(l, string([]byte{byte(c)}))
	}
	return l
}

// tagOf and pair say of a key's hash what the promises of hash say.
func tagOf(k string) int { return int(hash.Of(k) / 256 % 32768) }

func pair(k string) (int, int) {
	a := int(hash.Of(k) % 8)
	return a, a ^ (1 + tagOf(k)%7)
}

// cousins answers two keys of one tag and the same two buckets, but of other hashes, and one of the same tag in two other buckets.
func cousins(t *testing.T) (a, b, far string) {
	t.Helper()
	first, others := map[[3]int]string{}, map[int][]string{}
	for i := range 100000 {
		k := fmt.Sprint("cousin", i)
		x, y := pair(k)
		at := [3]int{tagOf(k), min(x, y), max(x, y)}
		was, has := first[at]
		if has && hash.Of(was) != hash.Of(k) {
			for _, z := range others[tagOf(k)] {
				if p, q := pair(z); p != x && q != x {
					return was, k, z
				}
			}
		}
		first[at] = k
		others[tagOf(k)] = append(others[tagOf(k)], k)
	}
	t.Fatal("no such keys")
	return "", "", ""
}

// lay lays r in the first empty slot of its key's first bucket or, if other, of its other one; false: there is none.
func lay(x *order.Table, r api.Rec, other bool) bool {
	at, second := pair(r.Key)
	if other {
		at = second
	}
	for s := range x[at] {
		if !x[at][s].Has {
			x[at][s] = order.Slot{Has: true, Rec: r}
			return true
		}
	}
	return false
}

// laid answers a table of one record.
func laid(bucket, slot int, r api.Rec) order.Table {
	var x order.Table
	x[bucket][slot] = order.Slot{Has: true, Rec: r}
	return x
}

// drawn answers a table of n keys as r draws them, in slots with gaps between; some of them are twins.
func drawn(r *rand.Rand, n int) order.Table {
	var x order.Table
	same := twins(10)
	for i := 0; n > 0; i++ {
		k := fmt.Sprint("key", i, " ", r.Intn(1000))
		if j := r.Intn(30); j < len(same) && len(same) > 2 {
			k = same[j]
			same = slices.Delete(same, j, j+1)
		}
		all := kinds(k)
		if other := r.Intn(2) == 0; lay(&x, all[r.Intn(len(all))], other) {
			n--
		}
	}
	for b := range x {
		r.Shuffle(4, func(i, j int) { x[b][i], x[b][j] = x[b][j], x[b][i] })
	}
	return x
}

// tables answers tables that may be, of each number of records.
func tables() []order.Table {
	r := rand.New(rand.NewSource(20))
	var l []order.Table
	for n := range 33 {
		l = append(l, drawn(r, n))
	}
	return l
}

// keysOf answers the records of x by their keys.
func keysOf(x order.Table) map[string]api.Rec {
	m := map[string]api.Rec{}
	for i := range 32 {
		if at := x[i/4][i%4]; at.Has {
			m[at.Rec.Key] = at.Rec
		}
	}
	return m
}

// reads answers how many records of x stand in k's two buckets with k's tag.
func reads(x *order.Table, k string) int {
	tag := tagOf(k)
	first, other := pair(k)
	n := 0
	for i := range 32 {
		if at := &x[i/4][i%4]; (i/4 == first || i/4 == other) && at.Has && tagOf(at.Rec.Key) == tag {
			n++
		}
	}
	return n
}

// strangers are keys of which most are in no table; some may be in none.
var strangers = []string{
	"", "a", "none", "key", "key0", "\x80", "\xff", "\xef\xbf\xbd", "\x00", "\xff\xff", strings.Repeat("k", 16), strings.Repeat("k", 17),
	strings.Repeat("\x80", 16), strings.Repeat("\x80", 17), strings.Repeat("key1", 100),
}

// told answers what a message says of x: quoted, and not without end.
func told(x any) string {
	return fmt.Sprintf("%.400q", fmt.Sprint(x))
}

// asked holds that Get and Reads of k are as x lets them be; m is keysOf(x).
func asked(t *testing.T, s *Store, x *order.Table, m map[string]api.Rec, k string) {
	t.Helper()
	want, has := m[k]
	if got, ok := s.Get(k); ok != has || got != want {
		t.Fatalf("Get(%.40q): %s, %v, not %s, %v", k, told(got), ok, told(want), has)
	}
	if got := s.Reads(k); got != reads(x, k) {
		t.Fatalf("Reads(%.40q): %d, not %d", k, got, reads(x, k))
	}
}

// isOf holds that s tells just what x has, in all ways.
func isOf(t *testing.T, s *Store, x order.Table) {
	t.Helper()
	m := keysOf(x)
	var want []api.Rec
	for _, k := range slices.Sorted(maps.Keys(m)) {
		want = append(want, m[k])
		asked(t, s, &x, m, k)
		asked(t, s, &x, m, k+"\x00")
		asked(t, s, &x, m, k[1:])
	}
	for _, k := range strangers {
		asked(t, s, &x, m, k)
	}
	if got := s.List(); !slices.Equal(got, want) {
		t.Fatalf("List: %s, not %s", told(got), told(want))
	}
	if got := s.Len(); got != len(want) {
		t.Fatalf("Len: %d, not %d", got, len(want))
	}
	if got := s.Bytes(); got == nil || !bytes.Equal(got, order.Encode(x)) {
		t.Fatalf("Bytes: %x, not %x", got, order.Encode(x))
	}
}

// both answers the Stores of x, which may be, by New and by Open, and holds that they are of x.
func both(t *testing.T, x order.Table) []*Store {
	t.Helper()
	a, err := New(x)
	if a == nil || err != api.OK {
		t.Fatalf("New(%s): %v", told(x), err)
	}
	b, err := Open(order.Encode(x))
	if b == nil || err != api.OK {
		t.Fatalf("Open(%x): %v", order.Encode(x), err)
	}
	isOf(t, a, x)
	isOf(t, b, x)
	return []*Store{a, b}
}

// isForm holds that x may be none.
func isForm(t *testing.T, x order.Table) {
	t.Helper()
	if s, err := New(x); s != nil || err != api.ErrForm {
		t.Errorf("New(%s): %s, %v, not ErrForm", told(x), told(s.List()), err)
	}
}

// isCorrupt holds that b is no table's bytes.
func isCorrupt(t *testing.T, b []byte) {
	t.Helper()
	if s, err := Open(b); s != nil || err != api.ErrCorrupt {
		t.Errorf("Open(%.200x): %s, %v, not ErrCorrupt", b, told(s.List()), err)
	}
}

// P20.1: tables of each number of records, up to a full one.
func TestHowMany(t *testing.T) {
	for n, x := range tables() {
		for _, s := range both(t, x) {
			if s.Len() != n || len(s.List()) != n {
				t.Errorf("Len of %d records: %d", n, s.Len())
			}
		}
	}
}

// P20.1: what one table answers, written out. The buckets of red and blue are 1 and 4, those of a are 2 and 6.
func TestOne(t *testing.T) {
	x := laid(4, 2, number("red", 5))
	x[1][3] = order.Slot{Has: true, Rec: gone("blue")}
	x[6][0] = order.Slot{Has: true, Rec: text("a", "")}
	want := []api.Rec{text("a", ""), gone("blue"), number("red", 5)}
	for _, s := range both(t, x) {
		if got := s.List(); !slices.Equal(got, want) || s.Len() != 3 {
			t.Errorf("List: %s", told(got))
		}
		for _, r := range want {
			if got, ok := s.Get(r.Key); !ok || got != r || s.Reads(r.Key) != 1 {
				t.Errorf("Get(%q): %s, %v", r.Key, told(got), ok)
			}
		}
		if got, ok := s.Get("b"); ok || got != (api.Rec{}) || s.Reads("b") != 0 {
			t.Errorf("Get of a key that is not there: %s, %v", told(got), ok)
		}
		if got := s.Bytes(); string(got) != "\x01\x00\x20\x80\x77\x0b\x08blue\x00\x4e\xbd\x06red\x02\x0a\x26\x13\x02a\x04\x00" {
			t.Errorf("Bytes: %x", got)
		}
	}
}

// P20.1: a record, of whatever kind it is, is found in each slot of its two buckets; of another bucket New tells ErrForm.
func TestWhere(t *testing.T) {
	for _, k := range append(twins(3), "a", "b", "key", "\x00", "\u00e9\u2603", strings.Repeat("\xff", 16), strings.Repeat("k", 16)) {
		first, other := pair(k)
		for i := range 32 {
			for _, r := range kinds(k) {
				x := laid(i/4, i%4, r)
				if i/4 != first && i/4 != other {
					isForm(t, x)
					continue
				}
				both(t, x)
			}
		}
	}
}

// P20.1: what is gone is a record too: Get is true of it.
func TestGone(t *testing.T) {
	var x order.Table
	for i := range 10 {
		if !lay(&x, gone(fmt.Sprint("key", i)), i%2 == 0) {
			t.Fatal("no room")
		}
	}
	for _, s := range both(t, x) {
		for i := range 10 {
			k := fmt.Sprint("key", i)
			if r, ok := s.Get(k); !ok || r != gone(k) {
				t.Errorf("Get(%q): %s, %v", k, told(r), ok)
			}
		}
	}
}

// P20.1: keys of one hash are told apart, and all of them are counted, of a key that is not there too.
func TestOneHash(t *testing.T) {
	var x order.Table
	keys := twins(12)
	for i, k := range keys[:8] {
		if !lay(&x, number(k, int64(i)), i%2 == 0) {
			t.Fatalf("no room for the key %d of one hash", i)
		}
		for _, s := range both(t, x) {
			for j, k := range keys {
				r, ok := s.Get(k)
				if ok != (j <= i) || ok && r != number(k, int64(j)) || !ok && r != (api.Rec{}) {
					t.Errorf("%d of one hash: Get(%q): %s, %v", i+1, k, told(r), ok)
				}
				if got := s.Reads(k); got != i+1 {
					t.Errorf("%d of one hash: Reads(%q): %d", i+1, k, got)
				}
			}
		}
	}
}

// P20.1: Reads counts records of one tag in the two buckets, of other hashes too, and none of the same tag in other buckets, nor of another tag in the same.
func TestCousins(t *testing.T) {
	a, b, far := cousins(t)
	for i := range 8 {
		var x order.Table
		for j, k := range []string{a, b, far} {
			if !lay(&x, number(k, int64(j)), i>>j&1 == 1) {
				t.Fatal("no room")
			}
		}
		for _, s := range both(t, x) {
			if s.Reads(a) != 2 || s.Reads(b) != 2 || s.Reads(far) != 1 {
				t.Errorf("Reads: %d, %d, %d", s.Reads(a), s.Reads(b), s.Reads(far))
			}
		}
		x = order.Table{}
		lay(&x, text(a, "one"), i&1 == 1)
		lay(&x, text(far, "two"), i&2 == 2)
		for _, s := range both(t, x) {
			if r, ok := s.Get(b); ok || r != (api.Rec{}) || s.Reads(b) != 1 {
				t.Errorf("Get of a key that is not there: %s, %v, Reads %d", told(r), ok, s.Reads(b))
			}
		}
	}
	first, other := pair("a")
	for i := range 10000 {
		k := fmt.Sprint("near", i)
		if p, q := pair(k); p != first || q != other || tagOf(k) == tagOf("a") {
			continue
		}
		var x order.Table
		lay(&x, gone(k), i%2 == 0)
		for _, s := range both(t, x) {
			if s.Reads("a") != 0 || s.Reads(k) != 1 {
				t.Errorf("Reads of another tag: %d", s.Reads("a"))
			}
		}
	}
}

// P20.1: List is by rising keys, byte by byte, whatever the buckets.
func TestList(t *testing.T) {
	var x order.Table
	keys := []string{"b", "a", "\xff", "ab", "\x00", "\u00e9", "B", "\x80", "a\x00", strings.Repeat("a", 16)}
	for _, k := range keys {
		if !lay(&x, number(k, 1), false) && !lay(&x, number(k, 1), true) {
			t.Fatalf("no room for %q", k)
		}
	}
	slices.Sort(keys)
	for _, s := range both(t, x) {
		for i, r := range s.List() {
			if r.Key != keys[i] {
				t.Errorf("List: %q, not %q, stands at %d", r.Key, keys[i], i)
			}
		}
	}
}

// P20.1: New of tables that may not be: ErrForm, and no Store.
func TestWrongTables(t *testing.T) {
	all := tables()
	for _, r := range bad() {
		for i := range 32 {
			isForm(t, laid(i/4, i%4, r))
			x := all[32]
			x[i/4][i%4].Rec = r
			isForm(t, x)
			x = all[16]
			x[i/4][i%4] = order.Slot{Rec: r}
			if r != (api.Rec{}) {
				isForm(t, x)
			}
		}
	}
	for i := range 32 {
		x := all[32]
		x[i/4][i%4].Has = false
		isForm(t, x)
		isForm(t, laid(i/4, i%4, api.Rec{}))
		x = order.Table{}
		x[i/4][i%4].Rec = gone("a")
		isForm(t, x)
	}
}

// P20.1: New of a table in which a key stands twice: ErrForm.
func TestTwice(t *testing.T) {
	for _, k := range []string{"a", "\xff", "key"} {
		first, other := pair(k)
		for _, r := range kinds(k) {
			x := laid(first, 1, gone(k))
			x[first][3] = order.Slot{Has: true, Rec: r}
			isForm(t, x)
			x = laid(first, 1, gone(k))
			x[other][1] = order.Slot{Has: true, Rec: r}
			isForm(t, x)
			x = laid(other, 0, gone(k))
			x[other][1] = order.Slot{Has: true, Rec: r}
			isForm(t, x)
		}
	}
}

// P20.1: Open of bytes that are cut off, of more bytes, and of such as are none at all.
func TestCutOff(t *testing.T) {
	for _, x := range tables() {
		b := order.Encode(x)
		for n := range b {
			isCorrupt(t, b[:n])
			isCorrupt(t, b[n+1:])
		}
		for c := range 256 {
			isCorrupt(t, append(bytes.Clone(b), byte(c)))
		}
		isCorrupt(t, append(bytes.Clone(b), b...))
	}
	for _, b := range [][]byte{nil, {}, {0}, {0, 0, 0}, {0, 0, 0, 0, 0}, {0xff, 0xff, 0xff, 0xff}, make([]byte, 1<<20), bytes.Repeat([]byte{0xff}, 1<<20), bytes.Repeat([]byte{2}, 1<<20)} {
		isCorrupt(t, b)
	}
}

// P20.1: Open of bytes of which some are other ones: it takes just those of a table, and as that.
func TestOtherBytes(t *testing.T) {
	r := rand.New(rand.NewSource(2))
	taken, refused := 0, 0
	for _, x := range tables() {
		whole := order.Encode(x)
		for i := range whole {
			b := bytes.Clone(whole)
			b[i] ^= 1 << r.Intn(8)
			y, err := order.Decode(b)
			if err != api.OK {
				refused++
				isCorrupt(t, b)
				continue
			}
			taken++
			s, err := Open(b)
			if s == nil || err != api.OK {
				t.Fatalf("Open(%x): %v", b, err)
			}
			isOf(t, s, y)
		}
	}
	if taken < 500 || refused < 500 {
		t.Errorf("the draws are poor: %d, %d", taken, refused)
	}
}

// P20.1: long runs of tables.
func TestDrawn(t *testing.T) {
	r := rand.New(rand.NewSource(3))
	for range 1000 {
		both(t, drawn(r, r.Intn(33)))
	}
}

// P20.1: an empty table is a Store too, of four bytes.
func TestEmpty(t *testing.T) {
	for _, s := range both(t, order.Table{}) {
		if s.Len() != 0 || len(s.List()) != 0 || string(s.Bytes()) != "\x00\x00\x00\x00" {
			t.Errorf("List: %s, Bytes: %x", told(s.List()), s.Bytes())
		}
	}
}

// P20.1: a nil *Store.
func TestNil(t *testing.T) {
	var s *Store
	for _, k := range strangers {
		if r, ok := s.Get(k); ok || r != (api.Rec{}) || s.Reads(k) != 0 {
			t.Errorf("Get(%.40q): %s, %v, Reads %d", k, told(r), ok, s.Reads(k))
		}
	}
	if len(s.List()) != 0 || len(s.Bytes()) != 0 || s.Len() != 0 {
		t.Errorf("List: %s, Bytes: %x, Len: %d", told(s.List()), s.Bytes(), s.Len())
	}
}

// P0.1: one that no New made does not panic.
func TestZero(t *testing.T) {
	isOf(t, &Store{}, order.Table{})
}

// P0.3: bytes that are handed in are not changed, their spare room neither, and nothing of them is kept.
func TestBytesStay(t *testing.T) {
	for n, x := range tables() {
		all := append(order.Encode(x), "....."...)
		was := bytes.Clone(all)
		s, err := Open(all[:len(all)-5])
		isCorrupt(t, all[:len(all)-4])
		isCorrupt(t, all[:len(all)-6])
		if err != api.OK || !bytes.Equal(all, was) {
			t.Fatalf("%d: %v, %x", n, err, all)
		}
		for i := range all {
			all[i] = '!'
		}
		isOf(t, s, x)
	}
}

// P0.3: nothing of the table that is handed in is kept, its texts neither.
func TestTableStays(t *testing.T) {
	k, v := []byte("red"), []byte("value")
	x := laid(4, 0, text(unsafe.String(&k[0], len(k)), unsafe.String(&v[0], len(v))))
	s, err := New(x)
	copy(k, "xxx")
	copy(v, "xxxxx")
	if err != api.OK {
		t.Fatal(err)
	}
	isOf(t, s, laid(4, 0, text("red", "value")))
	all := tables()
	x = all[20]
	s, _ = New(x)
	x = all[32]
	isOf(t, s, all[20])
}

// P0.3: answers are new memory, spare room too: whoever writes into one changes no other one, and not the Store.
func TestAnswersAreNew(t *testing.T) {
	for n, x := range tables() {
		for _, s := range both(t, x) {
			b, c := s.Bytes(), s.Bytes()
			kept := bytes.Clone(c[:cap(c)])
			for i := range b[:cap(b)] {
				b[:cap(b)][i] = '!'
			}
			if !bytes.Equal(c[:cap(c)], kept) {
				t.Errorf("%d: two answers of Bytes share memory", n)
			}
			l, m := s.List(), s.List()
			rest := slices.Clone(m[:cap(m)])
			for i := range l[:cap(l)] {
				l[:cap(l)][i] = gone("!")
			}
			if !slices.Equal(m[:cap(m)], rest) {
				t.Errorf("%d: two answers of List share memory", n)
			}
			isOf(t, s, x)
		}
	}
}

// P0.3: the texts of what is answered are new memory, too.
func TestTextsAreNew(t *testing.T) {
	x := drawn(rand.New(rand.NewSource(4)), 32)
	seen := map[*byte]bool{}
	fresh := func(r api.Rec) {
		for _, s := range []string{r.Key, r.Val.S} {
			// Texts of one byte the language itself makes from one memory.
			if len(s) < 2 {
				continue
			}
			if seen[unsafe.StringData(s)] {
				t.Fatalf("%q is told twice from one memory", s)
			}
			seen[unsafe.StringData(s)] = true
		}
	}
	for i := range 32 {
		r := x[i/4][i%4].Rec
		seen[unsafe.StringData(r.Key)] = true
		seen[unsafe.StringData(r.Val.S)] = true
	}
	for _, s := range both(t, x) {
		for _, r := range s.recs {
			fresh(r)
		}
		for range 2 {
			for _, r := range s.List() {
				fresh(r)
			}
			for k := range keysOf(x) {
				r, _ := s.Get(k)
				fresh(r)
			}
		}
	}
}

// P0.5: each one is by itself, and stays as it is behind all calls, failed ones too.
func TestApart(t *testing.T) {
	all := tables()
	var l []*Store
	for _, x := range all {
		l = append(l, both(t, x)...)
	}
	isForm(t, laid(0, 0, api.Rec{}))
	isCorrupt(t, []byte("\x80\x00\x00\x00"))
	for range 2 {
		for i, s := range l {
			isOf(t, s, all[i/2])
		}
	}
}
