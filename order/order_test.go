package order

import (
	"bytes"
	"cmp"
	"encoding/binary"
	"fmt"
	"math"
	"math/rand"
	"slices"
	"strings"
	"testing"
	"unicode/utf8"
	"unsafe"

	"loess/api"
	"loess/hash"
)

// number answers a record of a number.
func number(k string, n int64) api.Rec {
	return api.Rec{Key: k, Val: api.Raw{Kind: api.VNum, N: n}}
}

// text answers a record of a text.
func text(k, s string) api.Rec {
	return api.Rec{Key: k, Val: api.Raw{Kind: api.VText, S: s}}
}

// gone answers a record of what is gone.
func gone(k string) api.Rec {
	return api.Rec{Key: k, Gone: true}
}

// kinds are records of k that may be, of all kinds.
func kinds(k string) []api.Rec {
	return []api.Rec{
		gone(k), number(k, 0), number(k, -1), number(k, 63), number(k, 64), number(k, math.MaxInt64), number(k, math.MinInt64),
		text(k, ""), text(k, "\x00"), text(k, "\u00e9\ufffd"), text(k, strings.Repeat("x", 24)),
	}
}

// bad are records that may not be, of the key a where it is not the key that may not be.
func bad() []api.Rec {
	l := []api.Rec{
		{}, {Key: "a"}, {Key: "a", Val: api.Raw{N: 1}}, {Key: "a", Val: api.Raw{S: "s"}},
		{Key: "a", Gone: true, Val: api.Raw{N: 1}}, {Key: "a", Gone: true, Val: api.Raw{S: "s"}}, {Key: "a", Gone: true, Val: api.Raw{Kind: api.VNum}}, {Key: "a", Gone: true, Val: api.Raw{Kind: -1}},
		{Key: "a", Val: api.Raw{Kind: api.VNum, S: "s"}}, {Key: "a", Val: api.Raw{Kind: api.VText, N: 1}},
		{Key: "a", Val: api.Raw{Kind: 3}}, {Key: "a", Val: api.Raw{Kind: -1}}, {Key: "a", Val: api.Raw{Kind: math.MaxInt}}, {Key: "a", Val: api.Raw{Kind: math.MinInt}},
		text("a", strings.Repeat("x", 25)), text("a", "\xff"), text("a", "\xed\xa0\x80"), text("a", strings.Repeat("x", 1<<16+1)),
	}
	for _, k := range []string{"", strings.Repeat("k", 17), strings.Repeat("\x80", 64), strings.Repeat("k", 1<<16+1)} {
		l = append(l, gone(k), number(k, 0), text(k, "s"))
	}
	return l
}

// twins answers n keys of one hash: bytes with which no rune begins are the same rune, and so is U+FFFD itself.
func twins(n int) []string {
	l := []string{"\xef\xbf\xbd"}
	for c := 0xff; len(l) < n; c-- {
		l = append(l, string([]byte{byte(c)}))
	}
	return l
}

// tagOf and pair say of a key's hash what the promises of hash say.
func tagOf(k string) int { return int(hash.Of(k) / 256 % 32768) }

func pair(k string) (int, int) {
	a := int(hash.Of(k) % 8)
	return a, a ^ (1 + tagOf(k)%7)
}

// lay lays r in the first empty slot of its key's first bucket or, if other, of its other one; false: there is none.
func lay(x *Table, r api.Rec, other bool) bool {
	at, second := pair(r.Key)
	if other {
		at = second
	}
	for s := range x[at] {
		if x[at][s] == (Slot{}) {
			x[at][s] = Slot{true, r}
			return true
		}
	}
	return false
}

// laid answers a table of one record.
func laid(bucket, slot int, r api.Rec) Table {
	var x Table
	x[bucket][slot] = Slot{true, r}
	return x
}

// drawn answers a table of n keys as r draws them; some of them are twins.
func drawn(r *rand.Rand, n int) Table {
	var x Table
	same := twins(10)
	for i := 0; n > 0; i++ {
		k := fmt.Sprint("key", i, " ", r.Intn(1000))
		if j := r.Intn(30); j < len(same) && len(same) > 2 {
			k = same[j]
			same = slices.Delete(same, j, j+1)
		}
		all := kinds(k)
		if other := r.Intn(2) == 0; lay(&x, all[r.Intn(len(all))], other) {
			n--
		}
	}
	for b := range x {
		r.Shuffle(4, func(i, j int) { x[b][i], x[b][j] = x[b][j], x[b][i] })
	}
	return x
}

// tables answers tables that may be, of each number of records.
func tables() []Table {
	r := rand.New(rand.NewSource(19))
	var l []Table
	for n := range 33 {
		l = append(l, drawn(r, n))
	}
	return l
}

// recAsRuled says of r what the promises say of a record.
func recAsRuled(r api.Rec) bool {
	if size := len([]byte(r.Key)); size < 1 || size > 16 {
		return false
	}
	v := r.Val
	if r.Gone {
		return v.Kind == 0 && v.N == 0 && v.S == ""
	}
	return v.Kind == 1 && v.S == "" || v.Kind == 2 && v.N == 0 && len([]byte(v.S)) <= 24 && utf8.ValidString(v.S)
}

// mayAsRuled says of x what the promise says.
func mayAsRuled(x Table) bool {
	times := map[string]int{}
	for b := range 8 {
		for s := range 4 {
			at := x[b][s]
			if !at.Has {
				if at.Rec != (api.Rec{}) {
					return false
				}
				continue
			}
			if !recAsRuled(at.Rec) {
				return false
			}
			if first, other := pair(at.Rec.Key); b != first && b != other {
				return false
			}
			times[at.Rec.Key]++
			if times[at.Rec.Key] > 1 {
				return false
			}
		}
	}
	return true
}

// asRuled writes x by the promises' own words, whether it may be or not, its numbers by the library's own seven bits a byte.
func asRuled(x Table) []byte {
	head := uint32(0)
	var b []byte
	for i := range 32 {
		at := x[i/4][i%4]
		head *= 2
		if !at.Has {
			continue
		}
		head++
		r := at.Rec
		b = binary.BigEndian.AppendUint16(b, uint16(tagOf(r.Key)))
		b = binary.AppendVarint(b, int64(len(r.Key)))
		b = append(b, r.Key...)
		switch {
		case r.Gone:
			b = append(b, 0)
		case r.Val.Kind == 1:
			b = append(b, 2)
			b = binary.AppendVarint(b, r.Val.N)
		default:
			b = binary.AppendVarint(b, int64(r.Val.Kind))
			b = binary.AppendVarint(b, int64(len(r.Val.S)))
			b = append(b, r.Val.S...)
		}
	}
	return append(binary.BigEndian.AppendUint32(nil, head), b...)
}

// readAsRuled reads what asRuled writes, with no look at the tags, nor at whether the table may be.
func readAsRuled(b []byte) (Table, bool) {
	var x Table
	if len(b) < 4 {
		return x, false
	}
	head := binary.BigEndian.Uint32(b)
	b = b[4:]
	next := func() int64 {
		n, k := binary.Varint(b)
		if k <= 0 {
			b = nil
			return -1
		}
		b = b[k:]
		return n
	}
	word := func() string {
		n := next()
		if n < 0 || n > int64(len(b)) {
			b = nil
			return ""
		}
		s := string(b[:n])
		b = b[n:]
		return s
	}
	for i := range 32 {
		if head>>(31-i)&1 == 0 {
			continue
		}
		if len(b) < 2 {
			return x, false
		}
		b = b[2:]
		r := api.Rec{Key: word()}
		switch next() {
		case 0:
			r.Gone = true
		case 1:
			r.Val = api.Raw{Kind: 1, N: next()}
		case 2:
			r.Val = api.Raw{Kind: 2, S: word()}
		default:
			return x, false
		}
		x[i/4][i%4] = Slot{true, r}
	}
	return x, true
}

// told answers what a message says of x: the slots that are not all zero.
func told(x Table) string {
	var l []string
	for b := range x {
		for s, at := range x[b] {
			if at != (Slot{}) {
				l = append(l, fmt.Sprintf("%d/%d %v %.80q", b, s, at.Has, fmt.Sprint(at.Rec)))
			}
		}
	}
	return strings.Join(l, ", ")
}

// isCorrupt holds that b is no table's bytes.
func isCorrupt(t *testing.T, b []byte) {
	t.Helper()
	if x, err := Decode(b); x != (Table{}) || err != api.ErrCorrupt {
		t.Errorf("Decode(%.200x): %s, %v, not ErrCorrupt", b, told(x), err)
	}
}

// isDecoded holds that Decode answers x of b.
func isDecoded(t *testing.T, b []byte, x Table) {
	t.Helper()
	if got, err := Decode(b); got != x || err != api.OK {
		t.Errorf("Decode(%.200x): %s, %v, not %s", b, told(got), err, told(x))
	}
}

// isRead holds that Decode finds a table just then when b is what the promise writes of one that may be, and that one.
func isRead(t *testing.T, b []byte) bool {
	t.Helper()
	x, ok := readAsRuled(b)
	if !ok || !mayAsRuled(x) || !bytes.Equal(asRuled(x), b) {
		isCorrupt(t, b)
		return false
	}
	isDecoded(t, b, x)
	return true
}

// isListed holds that List tells the records of x, by rising keys.
func isListed(t *testing.T, x Table) {
	t.Helper()
	var want []api.Rec
	for i := range 32 {
		if at := x[i/4][i%4]; at.Has {
			want = append(want, at.Rec)
		}
	}
	slices.SortStableFunc(want, func(a, b api.Rec) int { return cmp.Compare(a.Key, b.Key) })
	if got := List(x); !slices.Equal(got, want) {
		t.Errorf("List(%s): %.500v", told(x), got)
	}
}

// mustMay holds that x may be, or not, and all that goes with it.
func mustMay(t *testing.T, ok bool, x Table) {
	t.Helper()
	if mayAsRuled(x) != ok {
		t.Fatalf("the tests' own words of %s: not %v", told(x), ok)
	}
	if May(x) != ok {
		t.Errorf("May(%s): not %v", told(x), ok)
	}
	isListed(t, x)
	b, got := asRuled(x), Encode(x)
	if !ok {
		if got != nil {
			t.Errorf("Encode(%s): %.200x, not nil", told(x), got)
		}
		// The bytes need not be wrong: what is gone, and an empty slot, have no place in them for what they should not have.
		isRead(t, b)
		return
	}
	if !bytes.Equal(got, b) {
		t.Errorf("Encode(%s): %.200x, not %.200x", told(x), got, b)
	}
	isDecoded(t, b, x)
}

// P19.1: Encode: the bytes, one by one, and back. The buckets of a are 2 and 6, of b 5 and 6, of key 4 and 6.
func TestBytes(t *testing.T) {
	two := laid(6, 0, gone("a"))
	two[6][1] = Slot{true, text("b", "red")}
	apart := laid(5, 2, number("b", 64))
	apart[2][1] = Slot{true, number("a", 0)}
	ends := laid(2, 3, gone("a"))
	ends[4][0] = Slot{true, gone("key")}
	ends[6][3] = Slot{true, gone("b")}
	for _, c := range []struct {
		x    Table
		want string
	}{
		{Table{}, "\x00\x00\x00\x00"},
		{laid(2, 0, gone("a")), "\x00\x80\x00\x00\x26\x13\x02a\x00"},
		{laid(6, 3, number("a", -5)), "\x00\x00\x00\x10\x26\x13\x02a\x02\x09"},
		{laid(4, 3, gone("key")), "\x00\x00\x10\x00\x57\xab\x06key\x00"},
		{two, "\x00\x00\x00\xc0\x26\x13\x02a\x00\x07\xf7\x02b\x04\x06red"},
		{apart, "\x00\x40\x02\x00\x26\x13\x02a\x02\x00\x07\xf7\x02b\x02\x80\x01"},
		{ends, "\x00\x10\x80\x10\x26\x13\x02a\x00\x57\xab\x06key\x00\x07\xf7\x02b\x00"},
	} {
		if got := Encode(c.x); string(got) != c.want {
			t.Errorf("Encode(%s): %x, not %x", told(c.x), got, c.want)
		}
		mustMay(t, true, c.x)
		isDecoded(t, []byte(c.want), c.x)
	}
}

// P19.1: tables of each number of records, up to a full one.
func TestHowMany(t *testing.T) {
	for n, x := range tables() {
		mustMay(t, true, x)
		if got := len(List(x)); got != n {
			t.Fatalf("List: %d, not %d", got, n)
		}
		isListed(t, x)
	}
}

// P19.1: a record may lie in each slot of its two buckets, of whatever kind it is, and in no other one.
func TestWhere(t *testing.T) {
	keys := append(twins(3), "a", "b", "\x00", "\u00e9\u2603", strings.Repeat("\xff", 16), strings.Repeat("k", 16))
	for i := range 60 {
		keys = append(keys, fmt.Sprint("key", i))
	}
	for _, k := range keys {
		first, other := pair(k)
		for b := range 8 {
			for s := range 4 {
				for _, r := range kinds(k)[:1+b%3] {
					mustMay(t, b == first || b == other, laid(b, s, r))
				}
			}
		}
		for _, r := range kinds(k) {
			mustMay(t, true, laid(first, 3, r))
			mustMay(t, true, laid(other, 0, r))
		}
	}
}

// P19.1: one record in a bucket that is none of its own, among others that lie well, and the table may not be.
func TestOneElsewhere(t *testing.T) {
	for _, x := range tables()[1:] {
		for i := range 32 {
			at := x[i/4][i%4]
			if !at.Has {
				continue
			}
			first, other := pair(at.Rec.Key)
			for b := range 8 {
				y := x
				y[i/4][i%4] = Slot{}
				// A full bucket gives up one, which is nowhere then.
				y[b][i%4] = at
				mustMay(t, b == first || b == other, y)
			}
		}
	}
}

// P19.1: no key stands twice, in one bucket or in two, with the same record or another one.
func TestTwice(t *testing.T) {
	for _, k := range []string{"a", "\xff", "key", strings.Repeat("k", 16)} {
		first, other := pair(k)
		for _, bs := range [][2]int{{first, first}, {first, other}, {other, other}} {
			for i := range 4 {
				for j := range 4 {
					if bs[0] == bs[1] && i == j {
						continue
					}
					for _, r := range kinds(k) {
						x := laid(bs[0], i, gone(k))
						x[bs[1]][j] = Slot{true, r}
						mustMay(t, false, x)
					}
				}
			}
		}
	}
	for n, x := range tables() {
		for i := range 32 {
			at := x[i/4][i%4]
			if !at.Has {
				continue
			}
			y := x
			if lay(&y, gone(at.Rec.Key), n%2 == 0) {
				mustMay(t, false, y)
			}
		}
	}
}

// P19.1: keys of one hash are not one key: eight of them may stand.
func TestOneHash(t *testing.T) {
	var x Table
	for i, k := range twins(8) {
		if !lay(&x, number(k, int64(i)), i >= 4) {
			t.Fatalf("no room for the key %d of one hash", i)
		}
		mustMay(t, true, x)
		y := x
		if lay(&y, number(twins(8)[i/2], -1), i < 4) {
			mustMay(t, false, y)
		}
	}
}

// P19.1: a record that may not be, in any slot, alone or among others, and the table may not be.
func TestWrongRecords(t *testing.T) {
	full := tables()[32]
	for _, r := range bad() {
		for i := range 32 {
			mustMay(t, false, laid(i/4, i%4, r))
			x := full
			x[i/4][i%4].Rec = r
			mustMay(t, false, x)
		}
	}
	for i := range 32 {
		x := full
		x[i/4][i%4].Rec.Val = api.Raw{}
		mustMay(t, x[i/4][i%4].Rec.Gone, x)
		x = full
		x[i/4][i%4].Rec.Gone = !x[i/4][i%4].Rec.Gone
		mustMay(t, false, x)
	}
}

// P19.1: a slot without a record is all zero.
func TestEmptySlots(t *testing.T) {
	left := append(bad()[1:], gone("a"), number("a", 0), text("a", ""), api.Rec{Gone: true}, api.Rec{Val: api.Raw{Kind: -1}}, api.Rec{Val: api.Raw{N: 1}}, api.Rec{Val: api.Raw{S: "s"}})
	all := tables()
	for _, r := range left {
		for i := range 32 {
			var x Table
			x[i/4][i%4].Rec = r
			mustMay(t, false, x)
			x = all[20]
			x[i/4][i%4] = Slot{Rec: r}
			mustMay(t, false, x)
		}
	}
	for i := range 32 {
		x := all[32]
		x[i/4][i%4].Has = false
		mustMay(t, false, x)
		x[i/4][i%4] = Slot{}
		mustMay(t, true, x)
		x[i/4][i%4] = Slot{Has: true}
		mustMay(t, false, x)
	}
}

// P19.1: List: by rising keys, byte by byte, whatever the buckets; what is gone is there, as a record.
func TestList(t *testing.T) {
	var x Table
	keys := []string{"b", "a", "\xff", "ab", "\x00", "\u00e9", "B", "\x7f", "\x80", "a\x00", strings.Repeat("a", 16)}
	for i, k := range keys {
		if !lay(&x, kinds(k)[i], false) && !lay(&x, kinds(k)[i], true) {
			t.Fatalf("no room for %q", k)
		}
	}
	mustMay(t, true, x)
	slices.Sort(keys)
	for i, r := range List(x) {
		if r.Key != keys[i] {
			t.Errorf("List: %q, not %q, stands at %d", r.Key, keys[i], i)
		}
	}
	if got := List(laid(2, 1, gone("a"))); !slices.Equal(got, []api.Rec{gone("a")}) {
		t.Errorf("List of what is gone: %v", got)
	}
	if got := List(Table{}); len(got) != 0 {
		t.Errorf("List of no records: %v", got)
	}
}

// P19.1, P0.1: List of tables that may not be: all records that they have, those of one key in the slots' order.
func TestListOfWrong(t *testing.T) {
	wrong := bad()
	for n := range wrong {
		var x Table
		for i := range 32 {
			x[i/4][i%4] = Slot{i%5 != n%5, wrong[(n+i*7)%len(wrong)]}
		}
		mustMay(t, false, x)
	}
	x := laid(6, 3, number("a", 1))
	x[6][1] = Slot{true, number("a", 2)}
	x[2][3] = Slot{true, number("a", 3)}
	x[0][0] = Slot{true, number("b", 4)}
	x[1][0] = Slot{false, number("c", 5)}
	if got := List(x); !slices.Equal(got, []api.Rec{number("a", 3), number("a", 2), number("a", 1), number("b", 4)}) {
		t.Errorf("List of a key that stands three times: %v", got)
	}
}

// P19.1: Decode of bytes that are cut off, and of more bytes.
func TestCutOff(t *testing.T) {
	for n, x := range tables() {
		b := asRuled(x)
		isDecoded(t, b, x)
		for k := range b {
			isCorrupt(t, b[:k])
			isCorrupt(t, b[:k:k])
			isCorrupt(t, b[k+1:])
		}
		for c := range 256 {
			isCorrupt(t, append(bytes.Clone(b), byte(c)))
		}
		isCorrupt(t, append(bytes.Clone(b), b...))
		isCorrupt(t, append(bytes.Clone(b), "\x26\x13\x02a\x00"...))
		if n > 0 {
			isCorrupt(t, append([]byte{0}, b...))
		}
	}
	for _, b := range [][]byte{nil, {}, {0}, {0, 0, 0}, {0, 0, 0, 0, 0}, make([]byte, 1<<20), bytes.Repeat([]byte{0xff}, 1<<20), bytes.Repeat([]byte{0x80}, 1<<20), bytes.Repeat([]byte{2}, 1<<20)} {
		isCorrupt(t, b)
	}
}

// P19.1: Decode of heads that ask for other slots than there are records for, or for slots where these do not belong.
func TestHeads(t *testing.T) {
	for _, x := range tables() {
		b := asRuled(x)
		head := binary.BigEndian.Uint32(b)
		for i := range 32 {
			binary.BigEndian.PutUint32(b, head^1<<i)
			isCorrupt(t, b)
			for j := range i {
				binary.BigEndian.PutUint32(b, head^1<<i^1<<j)
				isRead(t, b)
			}
		}
		for _, other := range []uint32{0, math.MaxUint32, ^head, head << 1, head >> 1} {
			binary.BigEndian.PutUint32(b, other)
			isRead(t, b)
		}
	}
	for i := range 32 {
		isCorrupt(t, binary.BigEndian.AppendUint32(nil, 1<<i))
		isCorrupt(t, append(binary.BigEndian.AppendUint32(nil, 1<<i), 0, 0))
		first, other := pair("a")
		b := append(binary.BigEndian.AppendUint32(nil, 1<<(31-i)), "\x26\x13\x02a\x00"...)
		if ok := isRead(t, b); ok != (i/4 == first || i/4 == other) {
			t.Errorf("a in the slot %d: %v", i, ok)
		}
	}
}

// P19.1: Decode of tags: just the one of the record's key, even where another one would have it lie there too.
func TestTags(t *testing.T) {
	for _, k := range []string{"a", "b", "key", "\xff"} {
		first, _ := pair(k)
		b := asRuled(laid(first, 0, number(k, 1)))
		for tag := range 1 << 16 {
			binary.BigEndian.PutUint16(b[4:], uint16(tag))
			if tag == tagOf(k) {
				isDecoded(t, b, laid(first, 0, number(k, 1)))
				continue
			}
			isCorrupt(t, b)
		}
	}
}

// P19.1: Decode of a record whose bytes are wrong: the one error, whatever is wrong with them.
func TestWrongBytes(t *testing.T) {
	long := strings.Repeat("k", 17)
	for _, c := range []struct{ key, rest string }{
		{"", "\x00\x00"}, {"", "\x01\x00"}, {long, "\x22" + long + "\x00"}, {"", "\x82\x80\x08" + strings.Repeat("k", 1<<16+1) + "\x00"},
		{"a", "\x82\x00a\x00"}, {"a", "\x02a\x80\x00"}, {"a", "\x02a\x02\x80\x00"}, {"a", "\x02a\x04\x80\x00"}, {"a", "\x02a\x02\x82\x81\x00"},
		{"a", "\x02a\x01"}, {"a", "\x02a\x06"}, {"a", "\x02a\x06\x00"}, {"a", "\x02a\xff\xff\x03\x00"}, {"a", "\x02a\x04\x02\xff"}, {"a", "\x02a\x04\x06\xed\xa0\x80"},
		{"a", "\x02a\x04\x01"}, {"a", "\x02a\x04\x32" + strings.Repeat("x", 25)}, {"a", "\x02a\x02\xff\xff\xff\xff\xff\xff\xff\xff\xff\x02"},
	} {
		for i := range 32 {
			b := binary.BigEndian.AppendUint32(nil, 1<<i)
			b = binary.BigEndian.AppendUint16(b, uint16(tagOf(c.key)))
			b = append(b, c.rest...)
			isCorrupt(t, b)
			isCorrupt(t, append(b, "\x26\x13\x02a\x00"...))
		}
	}
}

// P19.1: Decode of all short bytes.
func TestAllShort(t *testing.T) {
	for i := range 1 << 16 {
		x, y := byte(i>>8), byte(i)
		for _, b := range [][]byte{
			{y}, {x, y}, {0, x, y}, {x, y, 0, 0}, {0, 0, x, y}, {0, 0, 0, x, y},
			{x, y, 0, 0, 0x26, 0x13, 2, 'a', 0}, {0, 0, x, y, 0x26, 0x13, 2, 'a', 0},
			{0, 0x80, 0, 0, x, y, 2, 'a', 0}, {0, 0x80, 0, 0, 0x26, 0x13, x, y, 0}, {0, 0x80, 0, 0, 0x26, 0x13, 2, 'a', x, y}, {0, 0x80, 0, 0, 0x26, 0x13, 2, 'a', 4, x, y},
		} {
			isRead(t, b)
		}
	}
}

// P19.1: Decode of a table's bytes of which one is another one, is missing, or comes twice.
func TestOneByteWrong(t *testing.T) {
	all := tables()
	for _, x := range []Table{all[1], all[3], all[7]} {
		b := asRuled(x)
		for i := range b {
			for c := range 256 {
				y := bytes.Clone(b)
				y[i] = byte(c)
				isRead(t, y)
				isRead(t, slices.Insert(bytes.Clone(b), i, byte(c)))
			}
			isRead(t, slices.Delete(bytes.Clone(b), i, i+1))
		}
	}
}

// P19.1: long runs of tables, most of which may be, and of bytes near theirs.
func TestDrawn(t *testing.T) {
	r := rand.New(rand.NewSource(1))
	ill := bad()
	for range 4000 {
		x := drawn(r, r.Intn(33))
		mustMay(t, true, x)
		b := asRuled(x)
		for range 4 {
			b[r.Intn(len(b))] ^= 1 << r.Intn(8)
			isRead(t, b)
		}
		isRead(t, b[:r.Intn(len(b))])
		y := x
		i, j := r.Intn(32), r.Intn(32)
		y[i/4][i%4], y[j/4][j%4] = y[j/4][j%4], y[i/4][i%4]
		mustMay(t, mayAsRuled(y), y)
		y = x
		y[i/4][i%4] = y[j/4][j%4]
		mustMay(t, mayAsRuled(y), y)
		x[i/4][i%4] = Slot{r.Intn(2) == 0, ill[1+r.Intn(len(ill)-1)]}
		mustMay(t, false, x)
	}
}

// P0.3: bytes that are handed in are not changed, their spare room neither, and nothing of them is kept.
func TestBytesStay(t *testing.T) {
	for n, x := range tables() {
		all := append(asRuled(x), "....."...)
		was := bytes.Clone(all)
		got, err := Decode(all[:len(all)-5])
		isCorrupt(t, all[:len(all)-4])
		isCorrupt(t, all[:len(all)-6])
		if !bytes.Equal(all, was) {
			t.Errorf("%d: the bytes have changed", n)
		}
		for i := range all {
			all[i] = '!'
		}
		if got != x || err != api.OK {
			t.Errorf("%d: the table has become %s, %v", n, told(got), err)
		}
	}
}

// P0.3: answers are new memory, spare room too: whoever writes into one changes no other one.
func TestAnswersAreNew(t *testing.T) {
	for n, x := range tables() {
		b, c := Encode(x), Encode(x)
		kept := bytes.Clone(c[:cap(c)])
		b = b[:cap(b)]
		for i := range b {
			b[i] = '!'
		}
		if !bytes.Equal(c[:cap(c)], kept) {
			t.Errorf("%d: two answers of Encode share memory", n)
		}
		l, m := List(x), List(x)
		rest := slices.Clone(m[:cap(m)])
		l = l[:cap(l)]
		for i := range l {
			l[i] = gone("!")
		}
		if !slices.Equal(m[:cap(m)], rest) {
			t.Errorf("%d: two answers of List share memory", n)
		}
		mustMay(t, true, x)
	}
}

// P0.3: the texts of what is answered are new memory, too.
func TestTextsAreNew(t *testing.T) {
	x := tables()[32]
	seen := map[*byte]bool{}
	fresh := func(r api.Rec) {
		for _, s := range []string{r.Key, r.Val.S} {
			// Texts of one byte the language itself makes from one memory.
			if len(s) < 2 {
				continue
			}
			if seen[unsafe.StringData(s)] {
				t.Fatalf("%q is told twice from one memory", s)
			}
			seen[unsafe.StringData(s)] = true
		}
	}
	for _, row := range x {
		for _, s := range row {
			seen[unsafe.StringData(s.Rec.Key)] = true
			seen[unsafe.StringData(s.Rec.Val.S)] = true
		}
	}
	b := Encode(x)
	for range 2 {
		for _, r := range List(x) {
			fresh(r)
		}
		y, err := Decode(b)
		if err != api.OK {
			t.Fatal(err)
		}
		for _, row := range y {
			for _, s := range row {
				fresh(s.Rec)
			}
		}
	}
}

// P0.5: behind other calls, failed ones too, the same call answers the same.
func TestAnswersHangOnArgumentsAlone(t *testing.T) {
	x := laid(2, 0, gone("a"))
	for range 3 {
		if got := Encode(x); !May(x) || string(got) != "\x00\x80\x00\x00\x26\x13\x02a\x00" {
			t.Errorf("Encode: %x", got)
		}
		isDecoded(t, []byte("\x00\x80\x00\x00\x26\x13\x02a\x00"), x)
		isCorrupt(t, []byte("\x00\x80\x00\x00\x26\x13\x02a"))
		wrong := laid(3, 0, gone("a"))
		if May(wrong) || Encode(wrong) != nil || !slices.Equal(List(wrong), List(x)) {
			t.Error("May, Encode or List")
		}
	}
}
