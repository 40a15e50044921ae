package store

import (
	"loess/api"
	"loess/crc"
	"loess/dir"
	"loess/num"
)

// maxList is the most sectors of a list: it has 864 bytes at most, as Names and numbers have their ends, and long files take many sectors.
const maxList = 14

// head is what the super holds: where the list of files stands. The list has sectors of its own each, not a row, so that it finds room wherever there are as many.
type head struct {
	size int // bytes
	sum  int64
	list []int // sectors
}

// headOf answers the head of a list whose bytes are text, on the sectors at.
func headOf(text []byte, at []int) head {
	return head{len(text), int64(crc.Sum(text)), at}
}

// encode answers the bytes of h: 35 at most, 2 of them for each sector.
func (h head) encode() []byte {
	b := num.Put(nil, int64(h.size))
	b = num.Put(b, h.sum)
	for _, i := range h.list {
		b = num.Put(b, int64(i))
	}
	return b
}

// decodeHead answers the head whose bytes b is.
func decodeHead(b []byte) (head, bool) {
	var l []int64
	for len(b) > 0 {
		n, k, err := num.Get(b)
		if err != api.OK {
			return head{}, false
		}
		l = append(l, n)
		b = b[k:]
	}
	if len(l) < 2 || l[0] < 0 || l[0] > maxList*api.Sector || len(l)-2 != sectors(int(l[0])) {
		return head{}, false
	}
	h := head{size: int(l[0]), sum: l[1]}
	for _, i := range l[2:] {
		h.list = append(h.list, int(i))
	}
	return h, true
}

// filesOf answers the list whose bytes b is.
func filesOf(b []byte) ([]dir.Entry, bool) {
	// Make leaves no bytes.
	if len(b) == 0 {
		return nil, true
	}
	l, err := dir.Decode(b)
	return l, err == api.OK
}
