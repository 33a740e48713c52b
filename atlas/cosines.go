package atlas

import (
	"cmp"

	"meridian/api"
	"meridian/wide"
)

const greatestDen = 1 << 20

func isCosine(num, den int) bool {
	return den >= 1 && den <= greatestDen && num >= -den && num <= den
}

// A cosine of how far something is from a direction, times that direction's length: sign
// times the root of over/under. Only those from one direction may be compared; then one's
// over times another's under stays below 2^125.
type cosine struct {
	sign  int
	over  wide.Number
	under int
}

func (c cosine) compare(other cosine) int {
	if c.sign != other.sign {
		return cmp.Compare(c.sign, other.sign)
	}
	return c.sign * c.over.Times(other.under).Compare(other.over.Times(c.under))
}

func dot(d, e api.Cell) int { return d.X*e.X + d.Y*e.Y + d.Z*e.Z }

// cosineTo a direction e from d.
func cosineTo(d, e api.Cell) cosine {
	n := dot(d, e)
	return cosine{cmp.Compare(n, 0), wide.Product(size(n), size(n)), dot(e, e)}
}

// cosineFrom d that is num/den.
func cosineFrom(d api.Cell, num, den int) cosine {
	return cosine{cmp.Compare(num, 0), wide.Product(num*num, dot(d, d)), den * den}
}
