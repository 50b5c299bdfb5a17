package console_test

import (
	"fmt"

	"commonplace/console"
)

// What README.md shows.
func Example() {
	c := console.New()
	for _, answer := range c.Run(
		`world 2 5`, // two clients; the server keeps five versions
		`watch 1 prefix "n"`,
		`do 1 {"name":"inc","args":{"key":"n","by":2}}`,
		`do 2 {"name":"inc","args":{"key":"n","by":3}}`,
		`save 1`, `push 1 9`, `deliver 0`, // client 1's push comes
		`settle 3`, // all comes to rest
		`store`, `head 1`, `view 2`, `judge`,
	) {
		fmt.Println(answer)
	}
	// Output:
	// ok
	// ok id 1
	// ok id 1
	// event 1 "n" - 2
	// ok id 1
	// ok
	// ok
	// ok old 0 done 1 failed 0
	// ok rounds 2 settled
	// store 2 keys 1
	// "n" 5
	// head 1
	// "n" 5
	// client 2 cookie 2 last 1 next 2 saved 2 pending 0
	// right
}
