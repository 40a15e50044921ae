package batch_test

import (
	"fmt"

	"loess/api"
	"loess/batch"
)

func Example() {
	red := api.Rec{Key: "red", Val: api.Raw{Kind: api.VNum, N: 5}}
	gone := api.Rec{Key: "red", Gone: true}
	b := batch.Encode([]api.Rec{red, gone})
	fmt.Printf("% x\n", b)
	l, err := batch.Decode(b)
	fmt.Println(l, err)
	fmt.Println(batch.Eq(l, []api.Rec{red, gone}), batch.Eq(l, []api.Rec{gone, red}))
	l, err = batch.Decode(b[:len(b)-1])
	fmt.Println(l, err == api.ErrCorrupt)
	wrong := []api.Rec{red, {}}
	fmt.Println(batch.May(wrong), batch.Encode(wrong) == nil)
	// Output:
	// 04 06 72 65 64 02 0a 06 72 65 64 00
	// [{red false {1 5 }} {red true {0 0 }}] 0
	// true false
	// [] true
	// false true
}
