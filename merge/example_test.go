package merge_test

import (
	"fmt"

	"loess/api"
	"loess/merge"
)

func Example() {
	red := api.Rec{Key: "red", Val: api.Raw{Kind: api.VNum, N: 5}}
	old := api.Rec{Key: "red", Val: api.Raw{Kind: api.VNum, N: 4}}
	blue := api.Rec{Key: "blue", Val: api.Raw{Kind: api.VText, S: "sky"}}
	gone := api.Rec{Key: "blue", Gone: true}
	fmt.Println(merge.Sort([]api.Rec{blue, red, gone, old}))
	m := merge.New([]api.Rec{gone, red}, []api.Rec{old, blue})
	fmt.Println(m.Next())
	fmt.Println(m.Next())
	fmt.Println(m.Next())
	fmt.Println(merge.All([]api.Rec{gone, red}, []api.Rec{old, blue}))
	fmt.Println(merge.All([]api.Rec{old, blue}, []api.Rec{gone, red}))
	// Output:
	// [{red false {1 5 }} {red false {1 4 }} {blue false {2 0 sky}} {blue true {0 0 }}]
	// {red false {1 5 }} true
	// {blue true {0 0 }} true
	// { false {0 0 }} false
	// [{red {1 5 }}]
	// [{red {1 4 }} {blue {2 0 sky}}]
}
