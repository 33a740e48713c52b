package plate

import (
	"math/big"

	"meridian/api"
)

const utmost = 1 << 61 // a coordinate that a fit answers, in size

// fitOf three points that are not in a line to three points. Its numbers stay below 2^58 in
// size, also times a point's coordinates and added.
func fitOf(from, to [3]api.Cell) Fit {
	over := twiceArea(from[0], from[1], from[2])
	a, b, c := row(from, over, [3]int{to[0].X, to[1].X, to[2].X})
	d, e, f := row(from, over, [3]int{to[0].Y, to[1].Y, to[2].Y})
	return Fit{a, b, c, d, e, f, over}.reduced()
}

// row of a fit: a*X + b*Y + c is over times what each of three points is taken to.
func row(from [3]api.Cell, over int, to [3]int) (a, b, c int) {
	x1, y1, to1 := from[1].X-from[0].X, from[1].Y-from[0].Y, to[1]-to[0]
	x2, y2, to2 := from[2].X-from[0].X, from[2].Y-from[0].Y, to[2]-to[0]
	a = to1*y2 - to2*y1
	b = x1*to2 - x2*to1
	return a, b, over*to[0] - a*from[0].X - b*from[0].Y
}

// reduced by all that its numbers have in common, Over being above 0 then.
func (f Fit) reduced() Fit {
	by := f.Over
	for _, n := range [...]int{f.A, f.B, f.C, f.D, f.E, f.F} {
		by = commonDivisor(by, n)
	}
	if (by < 0) != (f.Over < 0) {
		by = -by
	}
	return Fit{f.A / by, f.B / by, f.C / by, f.D / by, f.E / by, f.F / by, f.Over / by}
}

// commonDivisor, the greatest, but for its sign.
func commonDivisor(a, b int) int {
	for b != 0 {
		a, b = b, a%b
	}
	return a
}

// exact: (a*X + b*Y + c) / over, rounded down, whatever the numbers are.
func exact(a, b, c, over int, p api.Cell) int {
	sum := big.NewInt(int64(c))
	sum.Add(sum, bigProduct(a, p.X))
	sum.Add(sum, bigProduct(b, p.Y))
	sum.Div(sum, big.NewInt(int64(over))) // as over is above 0, this rounds down
	if sum.CmpAbs(big.NewInt(utmost)) > 0 {
		return sum.Sign() * utmost
	}
	return int(sum.Int64())
}

func bigProduct(a, b int) *big.Int {
	return new(big.Int).Mul(big.NewInt(int64(a)), big.NewInt(int64(b)))
}

// takes a point to where a fit of points has it, as Apply does, by ints alone, which are
// wide enough for both.
func (f Fit) takes(p api.Cell) api.Cell {
	return api.Cell{X: roundedDown(f.A*p.X+f.B*p.Y+f.C, f.Over), Y: roundedDown(f.D*p.X+f.E*p.Y+f.F, f.Over)}
}

// roundedDown: a number over one that is above 0.
func roundedDown(n, over int) int {
	q := n / over
	if n%over < 0 {
		q--
	}
	return q
}
