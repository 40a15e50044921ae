package store

import (
	"loess/api"
	"loess/extent"
)

// Where things stand: the super at the device's beginning, the list's own room at its end, the files between them.
const (
	superAt = 0
	filesAt = 2
	// listRoom sectors are the list's, however short it is: so it takes two more at most, and while it is short it never stands between the files.
	listRoom = maxList - 2
)

// rooms is what is free of a device behind the super.
type rooms struct {
	files, list *extent.Room
}

// left answers what s leaves free; false: what it holds may not stand so.
func (s *Store) left() (rooms, bool) {
	listAt := s.dev.Len() - listRoom
	r := rooms{
		files: extent.New(filesAt, listAt-filesAt),
		list:  extent.New(listAt, listRoom),
	}
	ok := true
	for _, f := range s.files {
		if f.Span.Len > 0 && !r.files.Use(f.Span) {
			ok = false
		}
	}
	for _, i := range s.list {
		one := extent.Span{At: i, Len: 1}
		if !r.list.Use(one) && !r.files.Use(one) {
			ok = false
		}
	}
	return r, ok
}

// takeFile takes n sectors of the shortest free row that has as many, so that the long rows stay.
func (r rooms) takeFile(n int) (extent.Span, bool) {
	var best extent.Span
	for _, free := range r.files.Spans() {
		if free.Len >= n && (best.Len == 0 || free.Len < best.Len) {
			best = free
		}
	}
	best.Len = min(best.Len, n)
	return best, r.files.Use(best)
}

// takeList takes n sectors, wherever they are.
func (r rooms) takeList(n int) ([]int, bool) {
	var l []int
	for range n {
		i, ok := r.takeOne()
		if !ok {
			return nil, false
		}
		l = append(l, i)
	}
	return l, true
}

// takeOne takes a sector for the list: of its own room, else the last one that is free, as files go to the beginnings of rows.
func (r rooms) takeOne() (int, bool) {
	if s, ok := r.list.Take(1); ok {
		return s.At, true
	}
	rows := r.files.Spans()
	if len(rows) == 0 {
		return 0, false
	}
	last := rows[len(rows)-1]
	i := last.At + last.Len - 1
	return i, r.files.Use(extent.Span{At: i, Len: 1})
}

// row answers the sectors of s one by one.
func row(s extent.Span) []int {
	var l []int
	for i := range s.Len {
		l = append(l, s.At+i)
	}
	return l
}

// sectors answers how many sectors n bytes take.
func sectors(n int) int {
	return (n + api.Sector - 1) / api.Sector
}
