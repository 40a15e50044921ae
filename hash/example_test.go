package hash_test

import (
	"fmt"

	"loess/hash"
)

func Example() {
	h := hash.Of("key")
	fmt.Printf("%x\n", h)
	fmt.Println(hash.First(h), hash.Tag(h))
	fmt.Println(hash.Other(4, 22443), hash.Other(6, 22443))
	fmt.Println(hash.Other(8, 22443), hash.Other(4, 32768))
	fmt.Println(hash.Of("a\xfe") == hash.Of("a\xff"))
	// Output:
	// b3c6b12632d7ab04
	// 4 22443
	// 6 4
	// -1 -1
	// true
}
