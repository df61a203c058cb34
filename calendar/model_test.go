package calendar

import (
	"math"
	"math/rand/v2"
	"regexp"
	"slices"
	"strconv"
	"testing"
	"time"

	"pandect/api"
)

// The model comes to the same days in another way than package calendar: dates are those of package time, and the open
// days of an office are listed in order, so that working days are found by their places in this list.

const lastDay = 1000000

var dayZero = time.Date(1600, time.January, 1, 0, 0, 0, 0, time.UTC)

// at returns the time at which a day begins.
func at(day int) time.Time { return dayZero.AddDate(0, 0, day) }

// dayOf returns the day that begins at a time.
func dayOf(t time.Time) int { return int((t.Unix() - dayZero.Unix()) / (24 * 60 * 60)) }

// modelLength returns the length of a month.
func modelLength(year int, month time.Month) int {
	if year < 1600 || year > 9999 {
		year = 2000
	}
	return time.Date(year, month+1, 0, 0, 0, 0, 0, time.UTC).Day()
}

func modelDay(year, month, day int) (int, api.Errno) {
	if month < 1 || month > 12 || day < 1 || day > modelLength(year, time.Month(month)) {
		return 0, api.ErrArg
	}
	if year < 1600 || year > 9999 {
		return 0, api.ErrRange
	}
	return inRange(dayOf(time.Date(year, time.Month(month), day, 0, 0, 0, 0, time.UTC)))
}

// inRange returns the result of a call that comes to a number of a day.
func inRange(n int) (int, api.Errno) {
	if n > lastDay {
		return 0, api.ErrRange
	}
	return n, api.OK
}

var formOfTexts = regexp.MustCompile(`^[0-9]{4}-[0-9]{2}-[0-9]{2}$`)

func modelParse(text string) (int, api.Errno) {
	if !formOfTexts.MatchString(text) || len(text) != 10 {
		return 0, api.ErrSyntax
	}
	year, _ := strconv.Atoi(text[:4])
	month, _ := strconv.Atoi(text[5:7])
	day, _ := strconv.Atoi(text[8:])
	n, err := modelDay(year, month, day)
	if err != api.OK {
		return 0, api.ErrSyntax
	}
	return n, api.OK
}

// office is an office with its closed days, and its open ones in order.
type office struct {
	closed []int
	open   []int
}

func newOffice(closed ...int) office {
	o := office{closed: closed}
	kept := map[int]bool{}
	for _, c := range closed {
		kept[c] = true
	}
	for day := range lastDay + 1 {
		// The day 2 is a Monday.
		if weekday := (day + 5) % 7; weekday != 5 && weekday != 6 && !kept[day] {
			o.open = append(o.open, day)
		}
	}
	return o
}

// works reports whether the office is open on a day.
func (o office) works(day int) bool {
	_, found := slices.BinarySearch(o.open, day)
	return found
}

// opened returns how many of the days up to a day are open.
func (o office) opened(day int) int {
	n, found := slices.BinarySearch(o.open, day)
	if found {
		n++
	}
	return n
}

// place returns the day that has a place in the list of open days.
func (o office) place(i int) (int, api.Errno) {
	if i >= len(o.open) {
		return 0, api.ErrRange
	}
	return o.open[i], api.OK
}

// modelStep returns the first step of a term.
func (o office) modelStep(day int, t api.Term) (int, api.Errno) {
	switch t.Unit {
	case api.UnitDay, api.UnitWeek:
		days := map[int]int{api.UnitDay: 1, api.UnitWeek: 7}
		return inRange(day + days[t.Unit]*t.N)
	case api.UnitMonth, api.UnitYear:
		months := map[int]int{api.UnitMonth: 1, api.UnitYear: 12}
		year, month, dayOfMonth := at(day).Date()
		begin := time.Date(year, month+time.Month(months[t.Unit]*t.N), 1, 0, 0, 0, 0, time.UTC)
		return inRange(dayOf(begin) + min(dayOfMonth, begin.AddDate(0, 1, -1).Day()) - 1)
	}
	if t.N == 0 {
		return day, api.OK
	}
	return o.place(o.opened(day) + t.N - 1)
}

// modelEnd returns the end of a term.
func (o office) modelEnd(day int, t api.Term) (int, api.Errno) {
	reached, err := o.modelStep(day, t)
	if err != api.OK {
		return 0, err
	}
	return o.place(o.opened(reached - 1))
}

// offices returns offices of all kinds: with no closed day, with single ones, with as many as there may be, with whole
// weeks, and with elements of closed that are no days, or are there twice.
func offices() []office {
	random := rand.New(rand.NewPCG(4, 1600))
	var weeks, spread, dense, last []int
	for i := range 1000 {
		weeks = append(weeks, 155900+i)
	}
	for i := range 100 {
		spread = append(spread, random.IntN(lastDay+1))
		dense = append(dense, 156300+random.IntN(150))
		last = append(last, lastDay-i)
	}
	return []office{
		newOffice(),
		newOffice(0, 2, 2, 3, 7, 59, 155917),
		newOffice(-1, lastDay+1, math.MinInt, math.MaxInt, -7, 2),
		newOffice(weeks...),
		newOffice(spread...),
		newOffice(dense...),
		newOffice(last...),
	}
}

// someDays returns the first and last days, days around the ends of years and of Februaries, and days of everywhere else.
func someDays() []int {
	l := []int{0, 1, 2, 3, 4, 5, 6, 7, 8, 9, 30, 31, 58, 59, 60, 365, 366, 36583, 36584, 109631, 109632, 146096, 146097}
	for day := 156320; day < 156395; day++ { // from 2027-12-28 to 2028-03-11
		l = append(l, day)
	}
	for day := 155979; day < 156020; day += 3 { // in January and February 2027
		l = append(l, day)
	}
	for day := 97; day < lastDay; day += 19973 {
		l = append(l, day)
	}
	for day := lastDay - 40; day <= lastDay; day++ {
		l = append(l, day)
	}
	return l
}

// someNumbers returns short and long lengths of terms.
func someNumbers() []int {
	return []int{0, 1, 2, 3, 4, 5, 6, 7, 11, 12, 13, 23, 24, 48, 100, 365, 366, 1000, 1200, 2737, 2738, 4800, 9999, 32800, 99999, 714285, 714286, 999999, 1000000}
}

// units returns all units of terms.
func units() []int {
	return []int{api.UnitDay, api.UnitWeek, api.UnitMonth, api.UnitYear, api.UnitWork}
}

// date returns the day with a text.
func date(t *testing.T, text string) int {
	t.Helper()
	day, err := Parse(text)
	if err != api.OK {
		t.Fatalf("%s: error %d", text, err)
	}
	return day
}

// ends returns the end of a term, and a number that is greater than all days if it would be out of range.
func ends(t *testing.T, day int, term api.Term, closed []int) int {
	t.Helper()
	end, err := Add(day, term, closed)
	switch {
	case err == api.ErrRange && end == 0:
		return lastDay + 1
	case err != api.OK:
		t.Fatalf("day %d, term %v: %d, error %d", day, term, end, err)
	}
	return end
}
