// Package span is for numbers that must lie in a span: it reads them, and tells whether they do.
package span

import (
	"logjam/api"
	"logjam/octet"
)

// tooMuch is above each span that numbers of bytes are held against, and every int has room for it.
const tooMuch = 1<<31 - 1

// Num reads a number; of 2^31 - 1 and all above it that one. A number that an int has no room for must not come into a span by losing bits.
func Num(i *octet.In) int { return int(min(i.Num(), tooMuch)) }

// Within tells whether a number is none below the least, and none above the greatest.
func Within(n, least, greatest int) bool { return least <= n && n <= greatest }

// Count tells what is wrong with how many there are, where there must be one, and may be as many as most.
func Count(many, most int) api.Errno {
	if many == 0 {
		return api.ErrForm
	}
	if many > most {
		return api.ErrLong
	}
	return api.OK
}
