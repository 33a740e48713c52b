package sky

import (
	"math/big"

	"meridian/api"
)

// The earth's turn is told by decimal fractions of a turn: as many of these parts.
const (
	parts   = 100000000000000000 // of a turn
	atFirst = 77905727326400000  // at the instant 0
	aDay    = 100273781191135448 // that are gained in a day
)

// turnedAt an instant: whole numbers of any size, so that nothing is rounded but
// once, at the end.
func turnedAt(t int) int {
	turned := product(atFirst, api.DayLong)
	turned.Add(turned, product(aDay, int64(t)))
	turned.Mul(turned, big.NewInt(api.Turn))
	// big's Div rounds down by a divisor above 0, and its Mod is never below 0.
	turned.Div(turned, product(parts, api.DayLong))
	return int(turned.Mod(turned, big.NewInt(api.Turn)).Int64())
}

func product(a, b int64) *big.Int {
	return new(big.Int).Mul(big.NewInt(a), big.NewInt(b))
}
