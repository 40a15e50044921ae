// Package fresh gives texts memory of their own: what is answered shares none with what is handed in or kept.
package fresh

import (
	"strings"

	"loess/api"
)

// Raw answers v with a text of its own.
func Raw(v api.Raw) api.Raw {
	v.S = strings.Clone(v.S)
	return v
}

// Rec answers r with texts of its own.
func Rec(r api.Rec) api.Rec {
	r.Key = strings.Clone(r.Key)
	r.Val = Raw(r.Val)
	return r
}

// Pair answers p with texts of its own.
func Pair(p api.Pair) api.Pair {
	p.Key = strings.Clone(p.Key)
	p.Val = Raw(p.Val)
	return p
}
