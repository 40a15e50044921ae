package logstore_test

import (
	"fmt"

	"loess/api"
	"loess/logstore"
)

func Example() {
	l := logstore.New()
	fmt.Println(l.Put(api.Rec{Key: "red", Val: api.Raw{Kind: api.VNum, N: 5}}), l.Put(api.Rec{Key: "blue", Gone: true}))
	fmt.Println(l.Put(api.Rec{Key: "red", Val: api.Raw{Kind: api.VText, S: "six"}}), l.Len())
	fmt.Println(l.Get("red"))
	fmt.Println(l.Get("green"))
	fmt.Println(l.List(), l.Reads("red"), l.Reads("green"))
	fmt.Println(l.Put(api.Rec{Key: "green"}) == api.ErrForm)
	o, err := logstore.Of(l.List())
	fmt.Println(o.List(), err)
	// Output:
	// 0 0
	// 0 2
	// {red false {2 0 six}} true
	// { false {0 0 }} false
	// [{blue true {0 0 }} {red false {2 0 six}}] 1 0
	// true
	// [{blue true {0 0 }} {red false {2 0 six}}] 0
}
