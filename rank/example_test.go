package rank_test

import (
	"fmt"

	"loess/bits"
	"loess/rank"
)

func Example() {
	var b bits.Bits
	b.PutNum(0b10110, 5)
	r := rank.New(&b)
	b.Put(true)
	fmt.Println(r.Len())
	fmt.Println(r.Ones(-1), r.Ones(0), r.Ones(3), r.Ones(5), r.Ones(99))
	fmt.Println(r.Place(-1), r.Place(0), r.Place(1), r.Place(2), r.Place(3))
	// Output:
	// 5
	// 0 0 2 3 3
	// -1 0 2 3 -1
}
