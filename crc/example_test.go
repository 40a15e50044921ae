package crc_test

import (
	"fmt"

	"loess/crc"
)

func Example() {
	sum := crc.Sum([]byte("1234"))
	fmt.Printf("%08x\n", sum)
	fmt.Printf("%08x\n", crc.More(sum, []byte("56789")))
	fmt.Printf("%08x\n", crc.Sum([]byte("123456789")))
	// Output:
	// 9be3e0a3
	// cbf43926
	// cbf43926
}
