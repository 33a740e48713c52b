package tick

const (
	firstYear = 1
	lastYear  = 9999
)

// daysAhead: how many days of the calendar lie ahead of 2000-01-01, from
// 0001-01-01 on; days are numbered from 2000 on, years are counted from 1 on.
var daysAhead int

func init() {
	daysAhead = daysBefore(2000)
}

// daysBefore a year's first day, from 0001-01-01 on.
func daysBefore(year int) int {
	y := year - 1
	return 365*y + y/4 - y/100 + y/400
}

func isLeapYear(year int) bool {
	return year%4 == 0 && (year%100 != 0 || year%400 == 0)
}

func monthLong(year, month int) int {
	switch month {
	case 2:
		if isLeapYear(year) {
			return 29
		}
		return 28
	case 4, 6, 9, 11:
		return 30
	}
	return 31
}

func isDate(year, month, date int) bool {
	if year < firstYear || year > lastYear || month < 1 || month > 12 {
		return false
	}
	return date >= 1 && date <= monthLong(year, month)
}

// hasYear tells whether a day's year is one that dates are told for; it
// compares only, so that no day, however far, can overflow.
func hasYear(day int) bool {
	return day >= -daysAhead && day < daysBefore(lastYear+1)-daysAhead
}

// dayOf a date that there is.
func dayOf(year, month, date int) int {
	day := daysBefore(year) - daysAhead + date - 1
	for m := 1; m < month; m++ {
		day += monthLong(year, m)
	}
	return day
}

// dateOf a day whose year is told.
func dateOf(day int) (year, month, date int) {
	rest := day + daysAhead
	// No year has more than 366 days, so this guess is never too late.
	year = rest/366 + 1
	for daysBefore(year+1) <= rest {
		year++
	}
	rest -= daysBefore(year)
	month = 1
	for rest >= monthLong(year, month) {
		rest -= monthLong(year, month)
		month++
	}
	return year, month, rest + 1
}
