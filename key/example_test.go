package key_test

import (
	"fmt"

	"loess/key"
)

func Example() {
	fmt.Println(key.May("red"), key.May(""), key.May("seventeen letters"))
	fmt.Println(key.Less("red", "reds"), key.Less("red", "Red"))
	fmt.Println(key.Runes("a\xfe", "a\xff"), key.Less("a\xfe", "a\xff"))
	fmt.Println(key.Runes("\xff", "\U0001f600"), key.Less("\xff", "\U0001f600"))
	fmt.Println(key.Fold("Red\u00c9"))
	// Output:
	// true false false
	// true false
	// 0 true
	// -1 false
	// redÉ
}
