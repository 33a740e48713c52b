package night

// How many bytes a log has of a number, of a sum, and of a result with its sum.
const (
	numberLong = 8
	sumLong    = 4
	resultLong = 3*numberLong + sumLong
)

// lowFirst puts so many of a number's bytes behind others.
func lowFirst(b []byte, n uint64, long int) []byte {
	for i := range long {
		b = append(b, byte(n>>(8*i)))
	}
	return b
}

// fromLow is the number of which these are the bytes.
func fromLow(b []byte) uint64 {
	n := uint64(0)
	for i, c := range b {
		n |= uint64(c) << (8 * i)
	}
	return n
}

func numbersOf(r Result) []byte {
	var b []byte
	for _, n := range []int{r.Index, r.Spots, r.Light} {
		b = lowFirst(b, uint64(n), numberLong)
	}
	return b
}

func resultOf(numbers []byte) Result {
	number := func(i int) int { return int(fromLow(numbers[i*numberLong : (i+1)*numberLong])) }
	return Result{Index: number(0), Spots: number(1), Light: number(2)}
}

// sumBehind is the sum of a result's numbers behind the sum ahead.
func sumBehind(ahead uint32, numbers []byte) uint32 {
	return summed(summed(0, lowFirst(nil, uint64(ahead), sumLong)), numbers)
}

func summed(s uint32, b []byte) uint32 {
	for _, c := range b {
		s = s*31 + uint32(c)
	}
	return s
}

// keepInPlace: of the first so many results those whose Index is their place, up to the first
// one of which it is not.
func (g *Log) keepInPlace(many int) {
	keep := 0
	for keep < min(many, len(g.results)) && g.results[keep].Index == keep {
		keep++
	}
	g.results = g.results[:keep]
}
