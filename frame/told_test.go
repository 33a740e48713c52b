package frame_test

import (
	"bytes"
	"crypto/sha256"
	"encoding/binary"
	"errors"
	"fmt"
	"math/big"
	"math/rand"
	"regexp"
	"slices"
	"strconv"
	"strings"
	"testing"

	"meridian/api"
	"meridian/frame"
)

func pic(wide int, counts ...int) api.Picture {
	return api.Picture{Wide: wide, High: len(counts) / wide, Counts: counts}
}

func same(p, q api.Picture) bool {
	return p.Wide == q.Wide && p.High == q.High && slices.Equal(p.Counts, q.Counts)
}

func none(p api.Picture) bool { return same(p, api.Picture{}) }

// made is a picture by a rule that the values written out were reckoned by.
func made(wide, high, seed int) api.Picture {
	p := api.Picture{Wide: wide, High: high, Counts: make([]int, wide*high)}
	for i := range p.Counts {
		p.Counts[i] = (i*i*7919 + i*seed + seed*seed) % 65536
	}
	return p
}

func parted(p api.Picture, by int) api.Picture {
	for i := range p.Counts {
		p.Counts[i] /= by
	}
	return p
}

func sumOf(l []int) string {
	words := make([]string, len(l))
	for i, n := range l {
		words[i] = strconv.Itoa(n)
	}
	return fmt.Sprintf("%x", sha256.Sum256([]byte(strings.Join(words, " "))))
}

func thrown(dice *rand.Rand, wide, high int) api.Picture {
	most := []int{2, 10, 1000, 65536}[dice.Intn(4)]
	p := api.Picture{Wide: wide, High: high, Counts: make([]int, wide*high)}
	for i := range p.Counts {
		p.Counts[i] = dice.Intn(most)
		if dice.Intn(20) == 0 {
			p.Counts[i] = []int{0, 1, 32767, 32768, 65534, 65535}[dice.Intn(6)]
		}
	}
	return p
}

func small(dice *rand.Rand) api.Picture {
	return thrown(dice, 1+dice.Intn(9), 1+dice.Intn(9))
}

func nameOf(dice *rand.Rand) string {
	const letters = "ABCDEFGHIJKLMNOPQRSTUVWXYZ0123456789-_"
	b := make([]byte, 1+dice.Intn(8))
	for i := range b {
		b[i] = letters[dice.Intn(len(letters))]
	}
	return string(b)
}

func valueOf(dice *rand.Rand) string {
	b := make([]byte, dice.Intn(71))
	for i := range b {
		b[i] = byte(32 + dice.Intn(95))
	}
	return strings.Trim(string(b), " ")
}

var kept = []string{"SIMPLE", "BITPIX", "NAXIS", "NAXIS1", "NAXIS2", "BZERO", "END"}

func cardsOf(dice *rand.Rand, n int) []api.Card {
	var l []api.Card
	seen := map[string]bool{}
	for len(l) < n {
		c := api.Card{Name: nameOf(dice), Value: valueOf(dice)}
		if !seen[c.Name] && !slices.Contains(kept, c.Name) {
			seen[c.Name] = true
			l = append(l, c)
		}
	}
	return l
}

// numbered are cards by a rule that the values written out were reckoned by.
func numbered(n int) []api.Card {
	l := make([]api.Card, n)
	for i := range l {
		l[i] = api.Card{Name: fmt.Sprintf("K%d", i), Value: strings.TrimRight(fmt.Sprintf("value %d of %s", i, strings.Repeat("x", i%50)), " ")}
	}
	return l
}

// toldMedian: the least count that at least half of them do not pass.
func toldMedian(l []int) int {
	best := -1
	for _, n := range l {
		upTo := 0
		for _, m := range l {
			if m <= n {
				upTo++
			}
		}
		if 2*upTo >= len(l) && (best < 0 || n < best) {
			best = n
		}
	}
	return best
}

// toldClean in fractions.
func toldClean(s frame.Set, p api.Picture) (api.Picture, []int) {
	sum, number := big.NewInt(0), big.NewInt(0)
	for _, n := range s.Flat.Counts {
		if n > 0 {
			sum.Add(sum, big.NewInt(int64(n)))
			number.Add(number, big.NewInt(1))
		}
	}
	mean := new(big.Rat).SetInt(new(big.Int).Div(sum, number))
	c := api.Picture{Wide: p.Wide, High: p.High}
	var full []int
	for i, n := range p.Counts {
		if n >= s.Full {
			full = append(full, i)
		}
		light := n - s.Dark.Counts[i]
		if light < 0 || s.Flat.Counts[i] == 0 {
			c.Counts = append(c.Counts, 0)
			continue
		}
		x := new(big.Rat).Mul(mean, big.NewRat(int64(light), int64(s.Flat.Counts[i])))
		x.Add(x, big.NewRat(1, 2))
		whole := new(big.Int).Div(x.Num(), x.Denom())
		if whole.Cmp(big.NewInt(65535)) > 0 {
			whole.SetInt64(65535)
		}
		c.Counts = append(c.Counts, int(whole.Int64()))
	}
	return c, full
}

func toldWrite(p api.Picture, cards []api.Card) []byte {
	var b bytes.Buffer
	line := func(name, value string) { fmt.Fprintf(&b, "%-8s= %-70s", name, value) }
	line("SIMPLE", "T")
	line("BITPIX", "16")
	line("NAXIS", "2")
	line("NAXIS1", fmt.Sprint(p.Wide))
	line("NAXIS2", fmt.Sprint(p.High))
	line("BZERO", "32768")
	for _, c := range cards {
		line(c.Name, c.Value)
	}
	fmt.Fprintf(&b, "%-80s", "END")
	b.WriteString(strings.Repeat(" ", (2880-b.Len()%2880)%2880))
	for y := p.High - 1; y >= 0; y-- {
		for x := range p.Wide {
			_ = binary.Write(&b, binary.BigEndian, int16(p.Counts[y*p.Wide+x]-32768))
		}
	}
	b.Write(make([]byte, (2880-b.Len()%2880)%2880))
	return b.Bytes()
}

var (
	cardForm  = regexp.MustCompile(`^([A-Z0-9_-]{1,8}) *$`)
	valueForm = regexp.MustCompile(`^([!-~]([ -~]*[!-~])?)?( *)$`)
	sideForm  = regexp.MustCompile(`^[1-9][0-9]{0,2}$`)
	errWrong  = errors.New("wrong")
)

// toldCard is a card of a file by its form.
func toldCard(b []byte) (api.Card, bool) {
	name := cardForm.FindSubmatch(b[:8])
	value := valueForm.FindSubmatch(b[10:])
	if name == nil || value == nil || string(b[8:10]) != "= " {
		return api.Card{}, false
	}
	return api.Card{Name: string(name[1]), Value: string(value[1])}, true
}

// toldHead is a head's cards by their forms, and where the head ends.
func toldHead(b []byte) ([]api.Card, int, error) {
	var l []api.Card
	for at := 0; at+80 <= len(b); at += 80 {
		if string(b[at:at+80]) == "END"+strings.Repeat(" ", 77) {
			to := (at + 80 + 2879) / 2880 * 2880
			if to > len(b) || len(bytes.Trim(b[at+80:to], " ")) > 0 {
				return nil, 0, errWrong
			}
			return l, to, nil
		}
		c, ok := toldCard(b[at : at+80])
		if !ok {
			return nil, 0, errWrong
		}
		l = append(l, c)
	}
	return nil, 0, errWrong
}

// toldRead goes by the forms of a file's parts, byte by byte.
func toldRead(b []byte) (api.Picture, []api.Card, error) {
	if len(b) > 400000 {
		return api.Picture{}, nil, api.ErrBound
	}
	l, at, err := toldHead(b)
	if err != nil || len(l) < 6 || len(l) > 106 || !sideForm.MatchString(l[3].Value) || !sideForm.MatchString(l[4].Value) {
		return api.Picture{}, nil, api.ErrFile
	}
	for i, c := range l {
		for _, d := range l[:i] {
			if c.Name == d.Name || c.Name == "END" {
				return api.Picture{}, nil, api.ErrFile
			}
		}
	}
	wide, _ := strconv.Atoi(l[3].Value)
	high, _ := strconv.Atoi(l[4].Value)
	first := fmt.Sprintf("[{SIMPLE T} {BITPIX 16} {NAXIS 2} {NAXIS1 %d} {NAXIS2 %d} {BZERO 32768}]", wide, high)
	blocks := (2*wide*high + 2879) / 2880
	if fmt.Sprint(l[:6]) != first || wide > 256 || high > 256 || len(b) != at+2880*blocks {
		return api.Picture{}, nil, api.ErrFile
	}
	numbers := b[at : at+2*wide*high]
	if len(bytes.Trim(b[at+len(numbers):], "\x00")) > 0 {
		return api.Picture{}, nil, api.ErrFile
	}
	var counts []int
	for y := high - 1; y >= 0; y-- {
		for x := range wide {
			counts = append(counts, int(int16(binary.BigEndian.Uint16(numbers[2*(y*wide+x):])))+32768)
		}
	}
	return api.Picture{Wide: wide, High: high, Counts: counts}, l[6:], nil
}

func needRead(t *testing.T, b []byte, p api.Picture, l []api.Card, err error) {
	t.Helper()
	q, m, err2 := frame.Read(b)
	if err2 != err || !same(p, q) || !slices.Equal(l, m) {
		t.Fatalf("Read of %d bytes = %d by %d, %d cards, %v, want %d by %d, %d cards, %v", len(b), q.Wide, q.High, len(m), err2, p.Wide, p.High, len(l), err)
	}
}

func needWrite(t *testing.T, p api.Picture, l []api.Card) []byte {
	t.Helper()
	b, err := frame.Write(p, l)
	if want := toldWrite(p, l); err != nil || !bytes.Equal(b, want) {
		t.Fatalf("Write of %d by %d, %d cards = %d bytes, %v, want other %d ones", p.Wide, p.High, len(l), len(b), err, len(want))
	}
	return b
}
