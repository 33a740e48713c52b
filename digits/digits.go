// Package digits writes whole numbers of which it is told how many digits they have.
package digits

import (
	"strconv"
	"strings"
)

// Of a number that is not below 0: so many of them, or more if it has more.
func Of(n, many int) string {
	text := strconv.Itoa(n)
	return strings.Repeat("0", max(many-len(text), 0)) + text
}
