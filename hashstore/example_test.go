package hashstore_test

import (
	"fmt"

	"loess/api"
	"loess/hashstore"
	"loess/order"
)

func Example() {
	red := api.Rec{Key: "red", Val: api.Raw{Kind: api.VNum, N: 5}}
	blue := api.Rec{Key: "blue", Gone: true}
	// The buckets of both are 1 and 4.
	var t order.Table
	t[4][0] = order.Slot{Has: true, Rec: red}
	t[1][0] = order.Slot{Has: true, Rec: blue}
	s, err := hashstore.New(t)
	fmt.Println(s.List(), s.Len(), err)
	fmt.Println(s.Get("blue"))
	fmt.Println(s.Get("green"))
	fmt.Println(s.Reads("red"), s.Reads("green"))
	o, err := hashstore.Open(s.Bytes())
	fmt.Println(o.List(), err)
	o, err = hashstore.Open(s.Bytes()[1:])
	fmt.Println(o == nil, err == api.ErrCorrupt)
	t[5][0] = t[4][0]
	o, err = hashstore.New(t)
	fmt.Println(o == nil, err == api.ErrForm)
	// Output:
	// [{blue true {0 0 }} {red false {1 5 }}] 2 0
	// {blue true {0 0 }} true
	// { false {0 0 }} false
	// 1 0
	// [{blue true {0 0 }} {red false {1 5 }}] 0
	// true true
	// true true
}
