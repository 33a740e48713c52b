package bits

const (
	noNumber = 0x7ff8000000000000 // the bits that stand for every NaN
	textLong = 16                 // digits of a number's text
)

// fourBits of a hexadecimal digit.
func fourBits(c byte) (uint64, bool) {
	switch {
	case c >= '0' && c <= '9':
		return uint64(c - '0'), true
	case c >= 'a' && c <= 'f':
		return uint64(c-'a') + 10, true
	case c >= 'A' && c <= 'F':
		return uint64(c-'A') + 10, true
	}
	return 0, false
}
