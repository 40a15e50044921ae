// Package fresh gives texts memory of their own: what is answered shares none with what is handed in or kept.
package fresh

import (
	"strings"

	"loess/api"
)

// Rec answers r with texts of its own.
func Rec(r api.Rec) api.Rec {
	r.Key = strings.Clone(r.Key)
	r.Val.S = strings.Clone(r.Val.S)
	return r
}
