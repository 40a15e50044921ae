package order_test

import (
	"fmt"

	"loess/api"
	"loess/order"
)

func Example() {
	red := api.Rec{Key: "red", Val: api.Raw{Kind: api.VNum, N: 5}}
	blue := api.Rec{Key: "blue", Gone: true}
	// The buckets of both are 1 and 4.
	var t order.Table
	t[4][0] = order.Slot{Has: true, Rec: red}
	t[1][0] = order.Slot{Has: true, Rec: blue}
	b := order.Encode(t)
	fmt.Printf("% x\n", b)
	u, err := order.Decode(b)
	fmt.Println(u == t, err, order.List(u))
	u, err = order.Decode(b[:len(b)-1])
	fmt.Println(u == order.Table{}, err == api.ErrCorrupt)
	t[4][0], t[5][0] = t[5][0], t[4][0]
	fmt.Println(order.May(t), order.Encode(t) == nil)
	// Output:
	// 08 00 80 00 77 0b 08 62 6c 75 65 00 4e bd 06 72 65 64 02 0a
	// true 0 [{blue true {0 0 }} {red false {1 5 }}]
	// true true
	// false true
}
