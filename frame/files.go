package frame

import (
	"math"
	"slices"

	"meridian/api"
)

const (
	blockLong  = 2880
	numberLong = 2
)

// headOf is a file's head, in whole blocks.
func headOf(p api.Picture, cards []api.Card) []byte {
	var b []byte
	for _, c := range firstCards(p.Wide, p.High) {
		b = withCard(b, c)
	}
	for _, c := range cards {
		b = withCard(b, c)
	}
	return filled(append(b, end...), blockLong, ' ')
}

// withCounts is a head with a picture's counts behind it, in whole blocks.
func withCounts(head []byte, p api.Picture) []byte {
	for i := range p.Counts {
		n := uint16(stored(p.Counts[fromBelow(p, i)]))
		head = append(head, byte(n>>8), byte(n))
	}
	return filled(head, blockLong, 0)
}

// stored is a count less 32768. A count above 32767 goes around on its way to 16 bits,
// and back here.
func stored(count int) int16 { return int16(count) + math.MinInt16 }

// counted undoes stored: adding half of all numbers twice is going once around.
func counted(n int16) int { return int(uint16(n + math.MinInt16)) }

// fromBelow is which count of a picture is number i of a file, whose rows go up.
func fromBelow(p api.Picture, i int) int {
	return (p.High-1-i/p.Wide)*p.Wide + i%p.Wide
}

// reading is how far a file has been read whose bytes come piece by piece. Cards and
// numbers do not lie across blocks, so it goes on where a block is whole.
type reading struct {
	block  [blockLong]byte
	come   int        // bytes of the block
	cards  []api.Card // the first ones too
	headed bool
	p      api.Picture
	next   int // which of its numbers comes next
}

// take a piece; false: no file begins so.
func (r *reading) take(piece []byte) bool {
	for len(piece) > 0 {
		n := copy(r.block[r.come:], piece)
		piece = piece[n:]
		r.come += n
		if r.come == blockLong && !r.goOn() {
			return false
		}
	}
	return true
}

// whole: nothing is missing.
func (r *reading) whole() bool {
	return r.come == 0 && r.headed && r.next == len(r.p.Counts)
}

// goOn with the block that has come.
func (r *reading) goOn() bool {
	r.come = 0
	if r.headed {
		return r.numbers()
	}
	return r.head()
}

// head: the block is of the head.
func (r *reading) head() bool {
	for at := 0; at < blockLong; at += cardLong {
		if !r.line(string(r.block[at : at+cardLong])) {
			return false
		}
	}
	return true
}

// line of the head.
func (r *reading) line(text string) bool {
	bare := unfilled(text)
	switch {
	case r.headed:
		return bare == ""
	case bare == end:
		return r.endHead()
	}
	c, ok := cardOf(text)
	r.cards = append(r.cards, c)
	return ok
}

// endHead: all cards have come.
func (r *reading) endHead() bool {
	if len(r.cards) < ahead || wrongCards(r.cards[ahead:]) != nil {
		return false
	}
	wide, high := side(r.cards[wideAt].Value), side(r.cards[highAt].Value)
	if wide == 0 || high == 0 || !slices.Equal(r.cards[:ahead], firstCards(wide, high)) {
		return false
	}
	r.headed = true
	r.p = api.Picture{Wide: wide, High: high, Counts: make([]int, wide*high)}
	return true
}

// numbers: the block is of counts.
func (r *reading) numbers() bool {
	if r.next == len(r.p.Counts) {
		return false
	}
	for at := 0; at < blockLong; at += numberLong {
		n := int16(r.block[at])<<8 | int16(r.block[at+1])
		if r.next < len(r.p.Counts) {
			r.p.Counts[fromBelow(r.p, r.next)] = counted(n)
			r.next++
		} else if n != 0 {
			return false
		}
	}
	return true
}
