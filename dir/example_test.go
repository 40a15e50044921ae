package dir_test

import (
	"fmt"

	"loess/dir"
	"loess/extent"
)

func Example() {
	l := []dir.Entry{
		{Name: "empty"},
		{Name: "log", Len: 65, Span: extent.Span{At: 5, Len: 2}},
	}
	b := dir.Encode(l)
	fmt.Printf("%v % x\n", dir.May(l), b)
	fmt.Println(dir.Decode(b))
	fmt.Println(dir.Decode(b[1:]))
	fmt.Println(dir.Find(l, "log"), dir.Find(l, "table"))
	l[1].Span.Len = 1
	fmt.Println(dir.May(l), dir.Encode(l) == nil)
	// Output:
	// true 04 0a 65 6d 70 74 79 00 00 00 06 6c 6f 67 82 01 0a 04
	// [{empty 0 {0 0}} {log 65 {5 2}}] 0
	// [] 8
	// 1 -1
	// false true
}
