package frame

import (
	"slices"
	"strconv"
	"strings"

	"meridian/api"
)

const (
	ahead     = 6 // cards that each head begins with
	wideAt    = 3 // of these
	highAt    = 4
	nameLong  = 8
	cardLong  = 80
	valueLong = cardLong - nameLong - len(equals)
	equals    = "= "
	blank     = " "
	end       = "END"
)

// firstCards are those that each head begins with.
func firstCards(wide, high int) []api.Card {
	return []api.Card{
		{Name: "SIMPLE", Value: "T"},
		{Name: "BITPIX", Value: "16"},
		{Name: "NAXIS", Value: "2"},
		{Name: "NAXIS1", Value: strconv.Itoa(wide)},
		{Name: "NAXIS2", Value: strconv.Itoa(high)},
		{Name: "BZERO", Value: "32768"},
	}
}

// wrongCards tells what is wrong with the cards behind the first ones.
func wrongCards(l []api.Card) error {
	if len(l) > api.MaxCards {
		return api.ErrBound
	}
	for i, c := range l {
		if !isName(c.Name) || isKept(c.Name) || named(l[:i], c.Name) {
			return api.ErrName
		}
	}
	for _, c := range l {
		if !isValue(c.Value) {
			return api.ErrText
		}
	}
	return nil
}

func isName(s string) bool {
	if len(s) < 1 || len(s) > nameLong {
		return false
	}
	for i := range len(s) {
		if !isOfNames(s[i]) {
			return false
		}
	}
	return true
}

func isOfNames(c byte) bool {
	return c >= 'A' && c <= 'Z' || c >= '0' && c <= '9' || c == '-' || c == '_'
}

// isKept: a name that the head itself needs.
func isKept(name string) bool { return name == end || named(firstCards(0, 0), name) }

func named(l []api.Card, name string) bool {
	return slices.ContainsFunc(l, func(c api.Card) bool { return c.Name == name })
}

func isValue(s string) bool {
	if len(s) > valueLong || strings.HasPrefix(s, blank) || strings.HasSuffix(s, blank) {
		return false
	}
	for i := range len(s) {
		if s[i] < 32 || s[i] > 126 {
			return false
		}
	}
	return true
}

// withCard is a head with one more card.
func withCard(head []byte, c api.Card) []byte {
	head = filled(append(head, c.Name...), nameLong, ' ')
	head = append(head, equals...)
	return filled(append(head, c.Value...), cardLong, ' ')
}

// cardOf is what a card's bytes say, be it a name and a value or not; false: it has no
// place for them.
func cardOf(text string) (api.Card, bool) {
	name, rest := text[:nameLong], text[nameLong:]
	value, ok := strings.CutPrefix(rest, equals)
	if !ok {
		return api.Card{}, false
	}
	return api.Card{Name: unfilled(name), Value: unfilled(value)}, true
}

// side that a value says; 0: none. How it is written is not looked at.
func side(value string) int {
	n, err := strconv.Atoi(value)
	if err != nil || n < 1 || n > api.MaxSide {
		return 0
	}
	return n
}

// filled is b with as much of one byte behind it as makes it whole units.
func filled(b []byte, unit int, with byte) []byte {
	for len(b)%unit != 0 {
		b = append(b, with)
	}
	return b
}

func unfilled(s string) string { return strings.TrimRight(s, blank) }
