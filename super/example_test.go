package super_test

import (
	"fmt"

	"loess/dev"
	"loess/super"
)

func Example() {
	d := dev.New(2)
	s, err := super.Make(d, 0, []byte("one"))
	fmt.Println(string(s.Text()), s.Turn(), err)
	fmt.Println(s.Save([]byte("two")), string(s.Text()), s.Turn())
	d.Fuse(1)
	fmt.Println(s.Save([]byte("three")), string(s.Text()), s.Turn())
	for _, c := range []*dev.Dev{d.Crash(), d.Crash(true)} {
		s, err = super.Open(c, 0)
		fmt.Println(string(s.Text()), s.Turn(), err)
	}
	_, err = super.Open(dev.New(2), 0)
	fmt.Println(err)
	// Output:
	// one 1 0
	// 0 two 2
	// 7 two 2
	// two 2 0
	// three 3 0
	// 8
}
