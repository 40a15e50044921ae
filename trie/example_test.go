package trie_test

import (
	"fmt"

	"loess/trie"
)

func Example() {
	// The first bits are 010, 011 and 1.
	l := []uint64{2 << 61, 3 << 61, 1 << 63}
	b, ok := trie.Build(l)
	fmt.Printf("%08b %d %v\n", b.Bytes(), b.Len(), ok)
	for _, h := range l {
		fmt.Println(trie.Rank(b, 3, h))
	}
	fmt.Println(trie.Rank(b, 3, 7<<61))
	fmt.Println(trie.Rank(b, 3, 1<<61))
	fmt.Println(trie.Check(b, 3), trie.Check(b, 4))
	b, ok = trie.Build([]uint64{5, 5})
	fmt.Println(b == nil, ok)
	// Output:
	// [01110100] 7 true
	// 0 true
	// 1 true
	// 2 true
	// 2 true
	// 0 false
	// true false
	// true false
}
