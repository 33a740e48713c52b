package frame_test

import (
	"bytes"
	"fmt"
	"math/rand"
	"slices"
	"strings"
	"testing"

	"meridian/api"
	"meridian/frame"
)

// needTold holds Read against the forms of a file, and against the promise: Write writes
// just these bytes of what was read.
func needTold(t *testing.T, b []byte) bool {
	t.Helper()
	p, l, err := toldRead(b)
	needRead(t, b, p, l, err)
	if err == nil {
		if again, err := frame.Write(p, l); err != nil || !bytes.Equal(again, b) {
			t.Fatalf("a file was read that Write does not write: %v", err)
		}
	}
	return err == nil
}

// head is cards of a file, each filled with blanks to 80 bytes.
func head(lines ...string) []byte {
	var b []byte
	for _, line := range lines {
		b = append(b, line+strings.Repeat(" ", 80-len(line))...)
	}
	return b
}

// file is a head filled with blanks to whole blocks, and so many bytes behind it.
func file(more int, lines ...string) []byte {
	b := head(lines...)
	b = append(b, bytes.Repeat([]byte(" "), (2880-len(b)%2880)%2880)...)
	return append(b, make([]byte, more)...)
}

func sized(wide, high string, more ...string) []string {
	l := []string{"SIMPLE  = T", "BITPIX  = 16", "NAXIS   = 2", "NAXIS1  = " + wide, "NAXIS2  = " + high, "BZERO   = 32768"}
	return append(l, more...)
}

// P103: files that are wrong in one thing, and the ones beside them that are not.
func TestReadWrong(t *testing.T) {
	lines := func(n int) []string {
		var l []string
		for i := range n {
			l = append(l, fmt.Sprintf("%-8s=", fmt.Sprintf("K%d", i)))
		}
		return append(l, "END")
	}
	swapped := sized("1", "1", "END")
	swapped[0], swapped[1] = swapped[1], swapped[0]
	for _, c := range []struct {
		what string
		b    []byte
		good bool
	}{
		{"the least file", file(2880, sized("1", "1", "END")...), true},
		{"no bytes", nil, false},
		{"a head alone", file(0, sized("1", "1", "END")...), false},
		{"a block too many", file(5760, sized("1", "1", "END")...), false},
		{"half a block", file(1440, sized("1", "1", "END")...), false},
		{"no end", file(2880, sized("1", "1")...), false},
		{"an end that is the first card", file(2880, "END"), false},
		{"five cards", file(2880, append(sized("1", "1")[:5], "END")...), false},
		{"an order of its own", file(2880, swapped...), false},
		{"one of the first ones is twice", file(2880, sized("1", "1", "BZERO   = 32768", "END")...), false},
		{"END that is a card", file(2880, sized("1", "1", "END     = 5", "END")...), false},
		{"END that is no name", file(2880, sized("1", "1", "END     =", "END")...), false},
		{"an end with more", file(2880, sized("1", "1", "END 5")...), false},
		{"an end that stands in", file(2880, sized("1", "1", " END")...), false},
		{"an end in small letters", file(2880, sized("1", "1", "end")...), false},
		{"ENDE", file(2880, sized("1", "1", "ENDE")...), false},
		{"a second end", file(2880, sized("1", "1", "END", "END")...), false},
		{"a card behind the end", file(2880, sized("1", "1", "END", "A       = 5")...), false},
		{"a blank card ahead of the end", file(2880, sized("1", "1", "", "END")...), false},
		{"a card", file(2880, sized("1", "1", "A       = 5", "END")...), true},
		{"a name twice", file(2880, sized("1", "1", "A       = 5", "A       = 6", "END")...), false},
		{"a name of small letters", file(2880, sized("1", "1", "a       = 5", "END")...), false},
		{"a name that stands in", file(2880, sized("1", "1", " A      = 5", "END")...), false},
		{"a name with a gap", file(2880, sized("1", "1", "A B     = 5", "END")...), false},
		{"no name", file(2880, sized("1", "1", "        = 5", "END")...), false},
		{"no blank behind =", file(2880, sized("1", "1", "A       =5", "END")...), false},
		{"no =", file(2880, sized("1", "1", "A         5", "END")...), false},
		{"a name alone", file(2880, sized("1", "1", "A", "END")...), false},
		{"a value that stands in", file(2880, sized("1", "1", "A       =  5", "END")...), false},
		{"a value that is =", file(2880, sized("1", "1", "A       = =", "END")...), true},
		{"a value of 70 bytes", file(2880, sized("1", "1", "A       = "+strings.Repeat("x", 70), "END")...), true},
		{"a value with a byte of 127", file(2880, sized("1", "1", "A       = x\x7fx", "END")...), false},
		{"a value with a byte of 31", file(2880, sized("1", "1", "A       = x\x1fx", "END")...), false},
		{"a value that ends with a byte of 9", file(2880, sized("1", "1", "A       = x\t", "END")...), false},
		{"the most cards", file(2880, sized("1", "1", lines(100)...)...), true},
		{"a card too many", file(2880, sized("1", "1", lines(101)...)...), false},
		{"a card too many, a block on", file(2880, sized("1", "1", lines(138)...)...), false},
		{"an end that fills its block", file(2880, sized("1", "1", lines(29)...)...), true},
		{"an end that begins a block", file(2880, sized("1", "1", lines(30)...)...), true},
		{"a blank block behind the head", append(file(2880, sized("1", "1", lines(29)...)...), file(0, sized("1", "1")...)...), false},
		{"no width", file(2880, sized("", "1", "END")...), false},
		{"a width of 0", file(2880, sized("0", "1", "END")...), false},
		{"no width, no counts", file(0, sized("0", "1", "END")...), false},
		{"a width below 0", file(2880, sized("-1", "1", "END")...), false},
		{"both below 0", file(2880, sized("-1", "-1", "END")...), false},
		{"a needless zero", file(2880, sized("01", "1", "END")...), false},
		{"a needless sign", file(2880, sized("+1", "1", "END")...), false},
		{"a gap of digits", file(2880, sized("1_0", "1", "END")...), false},
		{"a width that is none", file(2880, sized("1.", "1", "END")...), false},
		{"a width in hex", file(2880, sized("0x1", "1", "END")...), false},
		{"the most wide", file(2880, sized("256", "1", "END")...), true},
		{"too wide", file(2880, sized("257", "1", "END")...), false},
		{"much too wide", file(2880, sized("99999999999999999999", "1", "END")...), false},
		{"a width that goes around", file(2880, sized("18446744073709551617", "1", "END")...), false},
		{"no height", file(2880, sized("1", "", "END")...), false},
		{"a height of 0", file(2880, sized("1", "0", "END")...), false},
		{"no height, no counts", file(0, sized("1", "0", "END")...), false},
		{"a needless zero of the height", file(2880, sized("1", "001", "END")...), false},
		{"the most high", file(2880, sized("1", "256", "END")...), true},
		{"too high", file(2880, sized("1", "257", "END")...), false},
		{"counts that fill a block", file(2880, sized("40", "36", "END")...), true},
		{"counts that fill a block, and one more", file(5760, sized("40", "36", "END")...), false},
		{"counts a little longer", file(2880, sized("131", "11", "END")...), false},
		{"counts in two blocks", file(5760, sized("131", "11", "END")...), true},
		{"the most counts", file(46*2880, sized("256", "256", "END")...), true},
		{"one block too few", file(45*2880, sized("256", "256", "END")...), false},
		{"one block too many", file(47*2880, sized("256", "256", "END")...), false},
		{"a block of zeros", make([]byte, 2880), false},
		{"a block of blanks", bytes.Repeat([]byte(" "), 2880), false},
		{"many blocks of blanks", bytes.Repeat([]byte(" "), 138*2880), false},
		{"a head that does not end", bytes.Repeat(head("A       = 5"), 138*36), false},
	} {
		if good := needTold(t, c.b); good != c.good {
			t.Errorf("%s: %t", c.what, good)
		}
	}
}

// P103: the first cards have the values that they have.
func TestReadFirstCards(t *testing.T) {
	for i, line := range []string{"SIMPLE  = T", "BITPIX  = 16", "NAXIS   = 2", "NAXIS1  = 1", "NAXIS2  = 1", "BZERO   = 32768"} {
		for _, other := range []string{line[:10], line + "x", line + " /", strings.Replace(line, "= ", "=  ", 1), "X" + line[1:], strings.ToLower(line), "", "COMMENT = 5"} {
			l := sized("1", "1", "END")
			l[i] = other
			needRead(t, file(2880, l...), api.Picture{}, nil, api.ErrFile)
		}
	}
}

// P103: files of which a byte is another one: each byte, where the cards and the counts
// are by all kinds of bytes.
func TestReadOtherByte(t *testing.T) {
	dice := rand.New(rand.NewSource(1031))
	b := toldWrite(pic(3, 1, 2, 3, 40000, 5, 6), []api.Card{{Name: "OBJECT", Value: "M 31"}, {Name: "B"}})
	good, bad := 0, 0
	for at := range b {
		others := []byte{b[at] ^ 1, byte(dice.Intn(256))}
		if at%2880 < 80*10 && at < 2880+20 {
			others = append(others, 0, 1, ' ', '=', '0', '1', '2', '3', 'A', 'E', 'a', 127, 255)
		}
		for _, c := range others {
			other := bytes.Clone(b)
			other[at] = c
			if needTold(t, other) {
				good++
			} else {
				bad++
			}
		}
	}
	if good < 1000 || bad < 10000 {
		t.Errorf("%d files are still good, %d are not", good, bad)
	}
}

// P103: files of which bytes are other ones, cards are moved, or that are longer or shorter.
func TestReadMended(t *testing.T) {
	dice := rand.New(rand.NewSource(1032))
	good, bad := 0, 0
	for range 6000 {
		l := cardsOf(dice, dice.Intn(4))
		b := toldWrite(small(dice), l)
		cards := 6 + len(l) + 1
		for range 1 + dice.Intn(2) {
			if len(b) < 2880 {
				break
			}
			from, to := 80*dice.Intn(cards), 80*dice.Intn(cards)
			switch dice.Intn(7) {
			case 0:
				b[dice.Intn(80*cards)] = byte(32 + dice.Intn(95))
			case 1:
				b[dice.Intn(len(b))] = byte(dice.Intn(256))
			case 2:
				copy(b[from:from+80], bytes.Clone(b[to:to+80]))
			case 3:
				copy(b[from:from+8], bytes.Clone(b[to:to+8]))
			case 4:
				one, two := bytes.Clone(b[from:from+80]), bytes.Clone(b[to:to+80])
				copy(b[from:], two)
				copy(b[to:], one)
			case 5:
				b = b[:len(b)-[]int{1, 80, 2880}[dice.Intn(3)]]
			case 6:
				b = append(b, make([]byte, []int{1, 80, 2880}[dice.Intn(3)])...)
			}
		}
		if needTold(t, b) {
			good++
		} else {
			bad++
		}
	}
	if good < 200 || bad < 3000 {
		t.Errorf("%d files are still good, %d are not", good, bad)
	}
}

// P103, P1: bytes of all kinds are no file; too many of them are told so, whatever they are.
func TestReadBound(t *testing.T) {
	dice := rand.New(rand.NewSource(1033))
	for range 300 {
		b := make([]byte, dice.Intn(6000))
		dice.Read(b)
		needRead(t, b, api.Picture{}, nil, api.ErrFile)
	}
	needRead(t, make([]byte, 400000), api.Picture{}, nil, api.ErrFile)
	needRead(t, make([]byte, 400001), api.Picture{}, nil, api.ErrBound)
	b := toldWrite(pic(1, 5), nil)
	needRead(t, append(b, make([]byte, 400000-len(b))...), api.Picture{}, nil, api.ErrFile)
	needRead(t, append(b, make([]byte, 400001-len(b))...), api.Picture{}, nil, api.ErrBound)
}

// P3: what lies behind a list's length is neither read nor written.
func TestBehind(t *testing.T) {
	counts := []int{1, 2, 3, 4, 77, 78}
	p := api.Picture{Wide: 2, High: 2, Counts: counts[:4]}
	cards := []api.Card{{Name: "A"}, {Name: "B"}, {Name: "A", Value: " "}}
	b := needWrite(t, p, cards[:2])
	if got, err := frame.Stack([]api.Picture{p, p}[:1]); err != nil || !same(got, p) {
		t.Error(got, err)
	}
	if _, _, err := (frame.Set{Dark: p, Flat: p, Full: 5}).Clean(p); err != nil {
		t.Error(err)
	}
	long := append(slices.Clone(b), 9, 9, 9)
	needRead(t, long[:len(b)], p, cards[:2], nil)
	pieces := []int{100, 3000, 77}
	if q, l, err := frame.Parts(long[:len(b)], pieces[:1]); err != nil || !same(q, p) || !slices.Equal(l, cards[:2]) {
		t.Error(q, l, err)
	}
	if !bytes.Equal(long[len(b):], []byte{9, 9, 9}) || !slices.Equal(counts[4:], []int{77, 78}) || !slices.Equal(pieces, []int{100, 3000, 77}) || cards[2].Name != "A" {
		t.Error("what lies behind was changed")
	}
	// A count is missing, though memory has one.
	if err := frame.Valid(api.Picture{Wide: 5, High: 1, Counts: counts[:4]}); err != api.ErrShape {
		t.Error(err)
	}
	needAt(t, api.Picture{Wide: 5, High: 1, Counts: counts[:4]}, 4, 0, 0, false)
}
