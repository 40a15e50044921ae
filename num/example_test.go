package num_test

import (
	"fmt"

	"loess/num"
)

func Example() {
	b := num.Put(nil, -65)
	b = num.PutText(b, "abc")
	fmt.Printf("% x\n", b)
	n, k, err := num.Get(b)
	fmt.Println(n, k, err)
	s, m, err := num.GetText(b[k:])
	fmt.Println(s, m, err)
	// Output:
	// 81 01 06 61 62 63
	// -65 2 0
	// abc 4 0
}
