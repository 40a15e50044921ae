package record_test

import (
	"fmt"

	"loess/api"
	"loess/record"
)

func Example() {
	red := api.Rec{Key: "red", Val: api.Raw{Kind: api.VNum, N: 5}}
	gone := api.Rec{Key: "red", Gone: true}
	fmt.Println(record.May(red), record.May(gone), record.May(api.Rec{Key: "red"}))
	fmt.Println(record.Eq(red, red), record.Eq(red, gone))
	b := record.Put(nil, red)
	b = record.Put(b, gone)
	fmt.Printf("% x\n", b)
	r, n, err := record.Get(b)
	fmt.Println(r, n, err)
	r, n, err = record.Get(b[n:])
	fmt.Println(r, n, err)
	blue := api.Rec{Key: "blue", Val: api.Raw{Kind: api.VText, S: "sky"}}
	fmt.Println(record.Newest([]api.Rec{red, blue, gone}))
	// Output:
	// true true false
	// true false
	// 06 72 65 64 02 0a 06 72 65 64 00
	// {red false {1 5 }} 6 0
	// {red true {0 0 }} 5 0
	// [{blue false {2 0 sky}} {red true {0 0 }}]
}
