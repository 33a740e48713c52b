package tick

import (
	"meridian/api"
	"meridian/digits"
)

// layout of a text: where it has a 0 stands a digit, elsewhere the sign itself.
const layout = "0000-00-00T00:00:00.000000Z"

// textOf a stamp whose year is told.
func textOf(s api.Stamp) string {
	year, month, date := dateOf(s.Day)
	seconds := s.Micro / api.Second
	// A leap second belongs to the day's last minute: it opens no 24th hour.
	minutes := min(seconds/60, 24*60-1)
	return digits.Of(year, 4) + "-" + digits.Of(month, 2) + "-" + digits.Of(date, 2) +
		"T" + digits.Of(minutes/60, 2) + ":" + digits.Of(minutes%60, 2) + ":" + digits.Of(seconds-minutes*60, 2) +
		"." + digits.Of(s.Micro%api.Second, 6) + "Z"
}

// firstWrong byte of a text, by the layout alone; the text's length, if it
// ends too early.
func firstWrong(text string) (at int, wrong bool) {
	for i := 0; i < len(layout); i++ {
		if i >= len(text) || !stands(text[i], layout[i]) {
			return i, true
		}
	}
	return len(layout), len(text) > len(layout)
}

func stands(b, place byte) bool {
	if place == '0' {
		return b >= '0' && b <= '9'
	}
	return b == place
}

// stampIn a text that has the layout, if there is such a one.
func stampIn(l []api.Leap, text string) (api.Stamp, bool) {
	year, month, date := number(text[0:4]), number(text[5:7]), number(text[8:10])
	hour, minute, second := number(text[11:13]), number(text[14:16]), number(text[17:19])
	if !isDate(year, month, date) || hour > 23 || minute > 59 {
		return api.Stamp{}, false
	}
	day := dayOf(year, month, date)
	if second >= minuteLong(l, day, hour, minute) {
		return api.Stamp{}, false
	}
	s := api.Stamp{Day: day, Micro: ((hour*60+minute)*60+second)*api.Second + number(text[20:26])}
	if _, ok := instantOf(l, s); !ok {
		return api.Stamp{}, false
	}
	return s, true
}

// minuteLong: how many seconds a minute of a day has.
func minuteLong(l []api.Leap, day, hour, minute int) int {
	if hour == 23 && minute == 59 {
		return 60 + extraOn(l, day)
	}
	return 60
}

// number of a text that is digits alone.
func number(text string) int {
	n := 0
	for i := 0; i < len(text); i++ {
		n = n*10 + int(text[i]-'0')
	}
	return n
}
