package store_test

import (
	"fmt"

	"loess/dev"
	"loess/store"
)

func Example() {
	d := dev.New(64)
	s, err := store.Make(d)
	fmt.Println(s.Names(), s.Free(), err)
	fmt.Println(s.Apply([]store.Put{{Name: "log", B: []byte("one")}, {Name: "empty"}}))
	b, err := s.Get("log")
	fmt.Println(s.Names(), s.Free(), string(b), err)
	d.Fuse(2)
	fmt.Println(s.Apply([]store.Put{{Name: "log", B: []byte("two")}, {Name: "empty", Gone: true}}), s.Down())
	s, err = store.Open(d.Crash(true))
	b, _ = s.Get("log")
	fmt.Println(s.Names(), string(b), err)
	fmt.Println(s.Apply([]store.Put{{Name: "wide", B: make([]byte, 65536)}, {Name: "log", Gone: true}}))
	_, err = s.Get("wide")
	fmt.Println(s.Names(), s.Down(), err)
	// Output:
	// [] 50 0
	// 0
	// [empty log] 49 one 0
	// 7 true
	// [empty log] one 0
	// 4
	// [empty log] false 6
}
