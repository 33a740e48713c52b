package arc

import (
	"unicode/utf8"

	"meridian/api"
)

// wrong is thrown where a text cannot go on: the number of its rune.
type wrong struct{ at int }

// end: what stands behind the last rune.
const end rune = -1

// reader goes through a text; at counts the runes that it has passed.
type reader struct {
	rest string
	at   int
}

// caught: what is read in a text, or the Fault of what was thrown there.
func caught(text string, read func(*reader) int) (a int, err error) {
	defer func() {
		thrown := recover()
		if w, ok := thrown.(wrong); ok {
			a, err = 0, &api.Fault{At: w.at, Err: api.ErrText}
		} else if thrown != nil {
			// It is no fault of the text: to answer one would hide it.
			panic(thrown)
		}
	}()
	return read(&reader{rest: text}), nil
}

func degreesIn(r *reader) int {
	minus := r.take('-')
	if !minus {
		r.take('+')
	}
	n := r.number(6) * whole
	r.need('°')
	n += r.sixtieths('′', '″')
	if minus {
		return -n
	}
	return n
}

func hoursIn(r *reader) int {
	first := r.at
	hours := r.number(2)
	needUpTo(23, hours, first)
	r.need('h')
	return (hours*whole + r.sixtieths('m', 's')) * perTime
}

// sixtieths: the minutes and seconds that there are up to the text's end.
func (r *reader) sixtieths(minute, second rune) int {
	if r.next() == end {
		return 0
	}
	n := r.twoDigits() * 60 * api.Second
	r.need(minute)
	if r.next() == end {
		return n
	}
	n += r.twoDigits() * api.Second
	if r.take('.') {
		n += r.micros()
	}
	r.need(second)
	r.needEnd()
	return n
}

// twoDigits of a number up to 59.
func (r *reader) twoDigits() int {
	first := r.at
	n := r.digit() * 10
	n += r.digit()
	needUpTo(59, n, first)
	return n
}

// micros: the digits behind a point, of which the last ones may be left out.
func (r *reader) micros() int {
	first := r.at
	n := r.number(6)
	for range 6 - (r.at - first) {
		n *= 10
	}
	return n
}

// number of one digit or more, up to so many.
func (r *reader) number(many int) int {
	n := r.digit()
	for i := 1; i < many && isDigit(r.next()); i++ {
		n = n*10 + r.digit()
	}
	return n
}

func (r *reader) digit() int {
	c := r.next()
	if !isDigit(c) {
		panic(wrong{r.at})
	}
	r.pass()
	return int(c - '0')
}

func isDigit(c rune) bool {
	return c >= '0' && c <= '9'
}

// needUpTo a bound: a number above it is wrong from its first digit on.
func needUpTo(bound, n, first int) {
	if n > bound {
		panic(wrong{first})
	}
}

func (r *reader) need(c rune) {
	if !r.take(c) {
		panic(wrong{r.at})
	}
}

func (r *reader) needEnd() {
	if r.next() != end {
		panic(wrong{r.at})
	}
}

// take a rune, if it stands here.
func (r *reader) take(c rune) bool {
	if r.next() != c {
		return false
	}
	r.pass()
	return true
}

func (r *reader) next() rune {
	if r.rest == "" {
		return end
	}
	// A byte that is no rune is utf8.RuneError, which no text asks for.
	c, _ := utf8.DecodeRuneInString(r.rest)
	return c
}

func (r *reader) pass() {
	_, long := utf8.DecodeRuneInString(r.rest)
	r.rest = r.rest[long:]
	r.at++
}
