package bits_test

import (
	"fmt"

	"loess/bits"
)

func Example() {
	var b bits.Bits
	b.Put(true)
	b.PutNum(5, 4)
	fmt.Println(b.Len(), b.At(0), b.At(1), b.At(5))
	fmt.Printf("%08b\n", b.Bytes())
	fmt.Println(b.Num(1, 4))
	fmt.Println(b.Num(2, 4))
	c, ok := bits.Of([]byte{0xa8}, 5)
	fmt.Println(c.Len(), ok)
	c, ok = bits.Of([]byte{0xa8}, 4)
	fmt.Println(c, ok)
	// Output:
	// 5 true false false
	// [10101000]
	// 5 true
	// 0 false
	// 5 true
	// <nil> false
}
