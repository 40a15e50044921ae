package runes_test

import (
	"fmt"

	"loess/runes"
)

func Example() {
	s := "a\u00e9\u2603"
	fmt.Printf("%U %d %v\n", runes.Of(s), runes.Count(s), runes.Valid(s))
	r, at, ok := runes.At(s, 2)
	fmt.Printf("%U %d %v\n", r, at, ok)
	fmt.Printf("%q %q\n", runes.Cut(s, 2), runes.Cut(s, 9))
	fmt.Printf("%U %v\n", runes.Of("a\xff"), runes.Valid("a\xff"))
	// Output:
	// [U+0061 U+00E9 U+2603] 3 true
	// U+2603 3 true
	// "aé" "aé☃"
	// [U+0061 U+FFFD] false
}
