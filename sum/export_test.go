package sum

import "sync"

// Unfill makes the table what it is ahead of the first call that comes to it.
func Unfill() {
	once = sync.Once{}
	clear(steps[:])
}

// Filled tells whether a call came to the table since.
func Filled() bool {
	return steps != [256]uint32{}
}
