package sorted_test

import (
	"fmt"

	"loess/api"
	"loess/sorted"
)

func Example() {
	red := api.Pair{Key: "red", Val: api.Raw{Kind: api.VNum, N: 5}}
	blue := api.Pair{Key: "blue", Val: api.Raw{Kind: api.VText, S: "sky"}}
	fmt.Println(sorted.Less("red", "blue"), sorted.Less("blue", "red"))
	s, err := sorted.New([]api.Pair{red, blue})
	fmt.Println(s.List(), s.Len(), err)
	fmt.Println(s.Get("blue"))
	fmt.Println(s.Get("green"))
	fmt.Println(s.Reads("red"), s.Reads("green"))
	fmt.Printf("% x\n", s.Bytes())
	o, err := sorted.Open(s.Bytes())
	fmt.Println(o.List(), err)
	o, err = sorted.Open(s.Bytes()[1:])
	fmt.Println(o == nil, err == api.ErrCorrupt)
	o, err = sorted.New([]api.Pair{blue, red})
	fmt.Println(o == nil, err == api.ErrForm)
	// Output:
	// true false
	// [{red {1 5 }} {blue {2 0 sky}}] 2 0
	// {2 0 sky} true
	// {0 0 } false
	// 1 1
	// 04 06 72 65 64 02 0a 08 62 6c 75 65 04 06 73 6b 79
	// [{red {1 5 }} {blue {2 0 sky}}] 0
	// true true
	// true true
}
