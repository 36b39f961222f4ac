// Package digits reads numbers in writing.
package digits

import (
	"strconv"
	"strings"
)

// Read is the number of a text with no more than so many digits. The library takes other forms, too: of each number just one is right, the one in which it is written.
func Read(t string, most int) (int, bool) {
	n, err := strconv.Atoi(t)
	if err != nil || strconv.Itoa(n) != t || len(strings.TrimPrefix(t, "-")) > most {
		return 0, false
	}
	return n, true
}
