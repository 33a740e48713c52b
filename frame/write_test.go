package frame_test

import (
	"bytes"
	"crypto/sha256"
	"fmt"
	"math/rand"
	"slices"
	"strings"
	"testing"

	"meridian/api"
	"meridian/frame"
)

// P103: files, written out: heads that end with a block and one card behind it, counts
// that end with a block and one number behind it.
func TestKnownFiles(t *testing.T) {
	for _, k := range []struct {
		wide, high, seed, cards, long int
		sum                           string
	}{
		{1, 1, 5, 0, 5760, "365eb580c1fefc496b5d1c22455a4da671e85a4e98a31529e8c1031c9cef43b5"},
		{3, 2, 77, 2, 5760, "584faa8e3b659c83c6699840db8e74ed46b2bab5a082e66644784384d74ce4c5"},
		{40, 36, 123, 29, 5760, "f3ef5d43af58522e0da7184211bcfb92442cac9470a08b96e2a9bf28db96636e"},
		{131, 11, 9, 30, 11520, "7743dba72df5af4d58ba1fb3cb1b228f06296dc80593170c253835f2694d0477"},
		{256, 256, 31, 100, 141120, "edf451baf21aae4aa1993bfe67f383179812cef8586adfe9d93c4e1f94e32837"},
		{1, 256, 3, 65, 8640, "b8c0d3fbc69be65673272efd1999a388d051a24a7af53e799ae3eeb433738f2e"},
		{256, 1, 4, 66, 11520, "591af3425ecca78c3a14eddce0d81b8c73943e770aa3b712e64c62b2169f9c9a"},
	} {
		p, l := made(k.wide, k.high, k.seed), numbered(k.cards)
		b, err := frame.Write(p, l)
		if err != nil || len(b) != k.long || fmt.Sprintf("%x", sha256.Sum256(b)) != k.sum {
			t.Errorf("%d by %d, %d cards: %d bytes, %v", k.wide, k.high, k.cards, len(b), err)
		}
		needRead(t, b, p, l, nil)
	}
}

// P103: a file byte by byte.
func TestWriteBytes(t *testing.T) {
	b := needWrite(t, pic(3, 0, 1, 255, 256, 32767, 32768, 32769, 65534, 65535), []api.Card{
		{Name: "OBJECT", Value: "M 31"},
		{Name: "A-1_Z0-9", Value: strings.Repeat("~", 70)},
		{Name: "-", Value: ""},
		{Name: "_", Value: "= END"},
	})
	var head strings.Builder
	for _, line := range []string{
		"SIMPLE  = T", "BITPIX  = 16", "NAXIS   = 2", "NAXIS1  = 3", "NAXIS2  = 3", "BZERO   = 32768",
		"OBJECT  = M 31", "A-1_Z0-9= " + strings.Repeat("~", 70), "-       =", "_       = = END", "END",
	} {
		head.WriteString(line + strings.Repeat(" ", 80-len(line)))
	}
	head.WriteString(strings.Repeat(" ", 25*80))
	if string(b[:2880]) != head.String() {
		t.Errorf("the head is %q", b[:2880])
	}
	want := append([]byte{0, 1, 127, 254, 127, 255, 129, 0, 255, 255, 0, 0, 128, 0, 128, 1, 128, 255}, make([]byte, 2862)...)
	if !bytes.Equal(b[2880:], want) {
		t.Errorf("the counts are %v ..", b[2880:2900])
	}
}

// P103: each count that there is, there and back.
func TestCountsOfFiles(t *testing.T) {
	p := api.Picture{Wide: 256, High: 256}
	for i := range 65536 {
		p.Counts = append(p.Counts, i)
	}
	needRead(t, needWrite(t, p, nil), p, nil, nil)
}

// P103: each byte in a name and in a value.
func TestBytesOfCards(t *testing.T) {
	for c := range 256 {
		one := string([]byte{byte(c)})
		capital, digit := c >= 'A' && c <= 'Z', c >= '0' && c <= '9'
		for _, name := range []string{one, "A" + one, one + "A", "A" + one + "B", "ABCDEFG" + one} {
			want := api.ErrName
			if capital || digit || c == '-' || c == '_' {
				want = nil
			}
			needCards(t, []api.Card{{Name: name}}, want)
		}
		for _, value := range []string{one, "x" + one, one + "x", one + "x x" + one} {
			want := api.ErrText
			if c > 32 && c < 127 {
				want = nil
			}
			needCards(t, []api.Card{{Name: "A", Value: value}}, want)
		}
		want := api.ErrText
		if c >= 32 && c < 127 {
			want = nil
		}
		needCards(t, []api.Card{{Name: "A", Value: "x" + one + one + "x"}}, want)
	}
}

func needCards(t *testing.T, l []api.Card, want error) {
	t.Helper()
	p := pic(2, 1, 2)
	b, err := frame.Write(p, l)
	if err != want || err != nil && len(b) != 0 {
		t.Errorf("Write with %d cards, the last one %q: %d bytes, %v, want %v", len(l), l[max(len(l)-1, 0):], len(b), err, want)
	}
	if err == nil {
		needRead(t, needWrite(t, p, l), p, l, nil)
	}
}

// P103: the names that are kept, those that are almost theirs, lengths, and numbers of
// cards; and that names are told ahead of values.
func TestCards(t *testing.T) {
	for _, name := range kept {
		needCards(t, []api.Card{{Name: name}}, api.ErrName)
		needCards(t, []api.Card{{Name: "A"}, {Name: name, Value: "T"}}, api.ErrName)
		needCards(t, []api.Card{{Name: name + "9"}, {Name: name[1:]}, {Name: strings.Repeat(name[:1], 8)}}, nil)
	}
	needCards(t, []api.Card{{}}, api.ErrName)
	needCards(t, []api.Card{{Name: "ABCDEFGH"}}, nil)
	needCards(t, []api.Card{{Name: "ABCDEFGHI"}}, api.ErrName)
	needCards(t, []api.Card{{Name: "A "}}, api.ErrName)
	needCards(t, []api.Card{{Name: "Å"}}, api.ErrName)
	needCards(t, []api.Card{{Name: "A"}, {Name: "B"}, {Name: "A"}}, api.ErrName)
	needCards(t, []api.Card{{Name: "A", Value: "same"}, {Name: "B", Value: "same"}, {Name: "AB", Value: "A"}}, nil)
	needCards(t, []api.Card{{Name: "A", Value: strings.Repeat("x", 70)}}, nil)
	needCards(t, []api.Card{{Name: "A", Value: strings.Repeat("x", 71)}}, api.ErrText)
	needCards(t, []api.Card{{Name: "A", Value: strings.Repeat(" ", 70)}}, api.ErrText)
	needCards(t, []api.Card{{Name: "A", Value: "x" + strings.Repeat(" ", 68) + "x"}}, nil)
	needCards(t, []api.Card{{Name: "A", Value: "°"}}, api.ErrText)
	needCards(t, []api.Card{{Name: "A", Value: " "}, {Name: "A"}}, api.ErrName)
	needCards(t, []api.Card{{Name: "A", Value: " "}, {Name: "B"}}, api.ErrText)
	needCards(t, []api.Card{{Name: "A", Value: "x "}, {Name: "END"}}, api.ErrName)
	for _, n := range []int{0, 1, 28, 29, 30, 64, 65, 66, 99, 100} {
		needCards(t, numbered(n), nil)
	}
	needCards(t, numbered(101), api.ErrBound)
	needCards(t, make([]api.Card, 101), api.ErrBound)
	needCards(t, make([]api.Card, 100), api.ErrName)
}

// P103, P3: a picture that is wrong is told ahead of cards that are wrong.
func TestWriteWrong(t *testing.T) {
	wide, bad := api.Picture{Wide: 257, High: 1}, pic(1, 65536)
	for _, l := range [][]api.Card{nil, numbered(101), {{Name: "END"}}, {{Name: "A", Value: " "}}} {
		for _, c := range []struct {
			p   api.Picture
			err error
		}{{wide, api.ErrBound}, {bad, api.ErrShape}, {api.Picture{}, api.ErrShape}} {
			if b, err := frame.Write(c.p, l); len(b) != 0 || err != c.err {
				t.Errorf("%d by %d: %d bytes, %v, want %v", c.p.Wide, c.p.High, len(b), err, c.err)
			}
		}
	}
}

// P103, P4: files of all kinds, there and back; neither what was handed over nor what was
// answered shares memory.
func TestThereAndBack(t *testing.T) {
	dice := rand.New(rand.NewSource(103))
	for i := range 400 {
		p := small(dice)
		if i%8 == 0 {
			p = thrown(dice, 1+dice.Intn(256), 1+dice.Intn(256))
		}
		l := cardsOf(dice, dice.Intn(101))
		counts, cards := slices.Clone(p.Counts), slices.Clone(l)
		b := needWrite(t, p, l)
		needRead(t, b, p, l, nil)
		old := bytes.Clone(b)
		q, m, _ := frame.Read(b)
		for k := range q.Counts {
			q.Counts[k] = -1
		}
		for k := range m {
			m[k] = api.Card{}
		}
		if !bytes.Equal(b, old) {
			t.Fatal("the file was changed")
		}
		q, m, _ = frame.Read(b)
		clear(b)
		if !same(q, p) || !slices.Equal(m, l) {
			t.Fatal("what was read hangs on the file")
		}
		if !slices.Equal(p.Counts, counts) || !slices.Equal(l, cards) {
			t.Fatal("what was written was changed")
		}
	}
}
