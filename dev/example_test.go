package dev_test

import (
	"fmt"

	"loess/dev"
)

func Example() {
	d := dev.New(2)
	fmt.Println(d.Write(0, []byte("abc")), d.Flush())
	fmt.Println(d.Write(0, []byte("X")), d.Write(1, []byte("yz")), d.Loose())
	d.Fuse(0)
	fmt.Println(d.Dead(), d.Flush(), d.Calls())
	for _, c := range []*dev.Dev{d, d.Crash(), d.Crash(true), d.Crash(false, true)} {
		a, _ := c.Read(0)
		b, err := c.Read(1)
		fmt.Printf("%q %q %d\n", a[:3], b[:3], err)
	}
	// Output:
	// 0 0
	// 0 0 [0 1]
	// true 7 4
	// "Xbc" "yz\x00" 0
	// "abc" "\x00\x00\x00" 0
	// "Xbc" "\x00\x00\x00" 0
	// "abc" "yz\x00" 0
}
