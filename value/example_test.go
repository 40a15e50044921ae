package value_test

import (
	"fmt"

	"loess/api"
	"loess/value"
)

func Example() {
	v, err := value.Of(api.Raw{Kind: api.VText, S: "red"})
	s, ok := value.Text(v)
	fmt.Println(v.Kind(), s, ok, err)
	_, ok = value.Num(v)
	fmt.Println(ok)
	b := value.Put(nil, value.Raw(v))
	b = value.Put(b, api.Raw{Kind: api.VNum, N: -65})
	fmt.Printf("% x\n", b)
	r, n, err := value.Get(b)
	fmt.Println(r, n, err)
	r, n, err = value.Get(b[n:])
	fmt.Println(r, n, err)
	// Output:
	// 2 red true 0
	// false
	// 04 06 72 65 64 02 81 01
	// {2 0 red} 5 0
	// {1 -65 } 3 0
}
