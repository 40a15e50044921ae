package extent_test

import (
	"fmt"

	"loess/extent"
)

func Example() {
	r := extent.New(10, 20)
	fmt.Println(r.Take(5))
	fmt.Println(r.Use(extent.Span{At: 20, Len: 4}), r.Spans(), r.Free())
	fmt.Println(r.Take(6))
	c := r.Copy()
	fmt.Println(r.Give(extent.Span{At: 12, Len: 10}), r.Give(extent.Span{At: 10, Len: 3}), r.Spans(), r.Free())
	fmt.Println(c.Spans(), c.Free())
	// Output:
	// {10 5} true
	// true [{15 5} {24 6}] 11
	// {24 6} true
	// false true [{10 3} {15 5}] 8
	// [{15 5}] 5
}
