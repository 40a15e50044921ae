package cuckoo_test

import (
	"fmt"

	"loess/cuckoo"
	"loess/hash"
)

func Example() {
	d := cuckoo.New()
	h := hash.Of("key")
	fmt.Println(d.Insert(h, 7), d.Insert(h, 5), d.Len())
	fmt.Println(d.Find(h), d.Find(hash.Of("yek")))
	fmt.Println(d.At(hash.First(h), 0))
	fmt.Println(d.Set(h, 7, 2), d.Set(h, 7, 2), d.Find(h))
	for id := 10; d.Insert(h, id); id++ {
	}
	fmt.Println(d.Find(h), d.Len())
	// Output:
	// true true 2
	// [5 7] []
	// 7 22443 true
	// true false [2 5]
	// [2 5 10 11 12 13 14 15] 8
}
