// Package threads is for tests that hand in threads: it has all of them, some at which faults show, and numbers that are none.
package threads

import (
	"math"

	"logjam/api"
)

// All is all threads, rising.
func All() []int {
	l := make([]int, api.MaxThreads)
	for t := range l {
		l[t] = t
	}
	return l
}

// Some is threads that a set of fewer bits would take for others, rising.
func Some() []int { return []int{0, 1, 2, 30, 31, 32, 33, 62, 63} }

// None is numbers that are no threads. Some would be, if bits were lost.
func None() []int {
	return []int{
		-1, -2, -31, -32, -62, -63, -64, -65, -1 << 31, -1 << 32, math.MinInt + 1, math.MinInt,
		64, 65, 95, 96, 127, 128, 255, 256, 1<<31 - 1, 1 << 31, 1 << 32, 1<<32 + 1, math.MaxInt - 1, math.MaxInt,
	}
}
