package gamma_test

import (
	"fmt"

	"loess/bits"
	"loess/gamma"
)

func Example() {
	var b bits.Bits
	for _, x := range []uint64{1, 5, 2} {
		fmt.Println(gamma.Len(x), gamma.Put(&b, x))
	}
	fmt.Println(gamma.Len(0), gamma.Put(&b, 0))
	fmt.Printf("%08b\n", b.Bytes())
	fmt.Println(gamma.Get(&b, 1))
	fmt.Println(gamma.Get(&b, 8))
	fmt.Println(gamma.All(&b, 0, 3))
	fmt.Println(gamma.All(&b, 0, 4))
	// Output:
	// 1 true
	// 5 true
	// 3 true
	// 0 false
	// [10010101 00000000]
	// 5 6 true
	// 0 8 false
	// [1 5 2] 9 true
	// [] 0 false
}
