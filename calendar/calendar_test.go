package calendar

import (
	"fmt"
	"math"
	"math/rand/v2"
	"slices"
	"strings"
	"sync"
	"testing"

	"pandect/api"
)

// noDays returns numbers that are no days.
func noDays() []int {
	return []int{-1, lastDay + 1, -2, -7, lastDay + 2, lastDay + 7, -lastDay, 1 << 31, 1 << 32, 1<<32 + 2, math.MinInt, math.MinInt + 1, math.MaxInt - 1, math.MaxInt}
}

// P4.1, D1 to D3: what belongs to these days was computed by another program.
func TestKnownDays(t *testing.T) {
	for _, test := range []struct {
		year, month, day, want int
		text                   string
		weekday                int
	}{
		{1600, 1, 1, 0, "1600-01-01", 5},
		{1600, 1, 2, 1, "1600-01-02", 6},
		{1600, 1, 31, 30, "1600-01-31", 0},
		{1600, 2, 1, 31, "1600-02-01", 1},
		{1600, 2, 28, 58, "1600-02-28", 0},
		{1600, 2, 29, 59, "1600-02-29", 1},
		{1600, 3, 1, 60, "1600-03-01", 2},
		{1600, 12, 31, 365, "1600-12-31", 6},
		{1601, 1, 1, 366, "1601-01-01", 0},
		{1604, 2, 29, 1520, "1604-02-29", 6},
		{1699, 12, 31, 36524, "1699-12-31", 3},
		{1700, 2, 28, 36583, "1700-02-28", 6},
		{1700, 3, 1, 36584, "1700-03-01", 0},
		{1752, 9, 14, 55774, "1752-09-14", 3},
		{1800, 3, 1, 73108, "1800-03-01", 5},
		{1899, 12, 31, 109572, "1899-12-31", 6},
		{1900, 2, 28, 109631, "1900-02-28", 2},
		{1900, 3, 1, 109632, "1900-03-01", 3},
		{1970, 1, 1, 135140, "1970-01-01", 3},
		{1999, 12, 31, 146096, "1999-12-31", 4},
		{2000, 2, 29, 146156, "2000-02-29", 1},
		{2000, 12, 31, 146462, "2000-12-31", 6},
		{2001, 1, 1, 146463, "2001-01-01", 0},
		{2026, 11, 19, 155916, "2026-11-19", 3},
		{2100, 3, 1, 182681, "2100-03-01", 0},
		{2400, 2, 29, 292253, "2400-02-29", 1},
		{3000, 6, 30, 511520, "3000-06-30", 0},
		{4000, 2, 29, 876641, "4000-02-29", 1},
		{4000, 12, 31, 876947, "4000-12-31", 6},
		{4336, 2, 29, 999362, "4336-02-29", 5},
		{4337, 1, 1, 999669, "4337-01-01", 4},
		{4337, 10, 31, 999972, "4337-10-31", 6},
		{4337, 11, 27, 999999, "4337-11-27", 5},
		{4337, 11, 28, 1000000, "4337-11-28", 6},
	} {
		if got, err := Day(test.year, test.month, test.day); got != test.want || err != api.OK {
			t.Errorf("%s: day %d, %d", test.text, got, err)
		}
		if y, m, d, err := Date(test.want); y != test.year || m != test.month || d != test.day || err != api.OK {
			t.Errorf("day %d: %d, %d, %d, %d", test.want, y, m, d, err)
		}
		if got := Text(test.want); got != test.text {
			t.Errorf("day %d: %q instead of %q", test.want, got, test.text)
		}
		if got, err := Parse(test.text); got != test.want || err != api.OK {
			t.Errorf("%s: parsed as %d, %d", test.text, got, err)
		}
		if got := Weekday(test.want); got != test.weekday {
			t.Errorf("%s: day of the week %d", test.text, got)
		}
		if got := Work(test.want, nil); got != (test.weekday <= 4) {
			t.Errorf("%s: offices are open: %v", test.text, got)
		}
	}
}

// P4.1, D1: dates that there are not, and those of no day.
func TestDatesThatThereAreNot(t *testing.T) {
	for _, test := range []struct {
		year, month, day int
		want             api.Errno
	}{
		{1600, 0, 1, api.ErrArg}, {1600, 13, 1, api.ErrArg}, {1600, -1, 1, api.ErrArg}, {1600, 1, 0, api.ErrArg},
		{1600, 1, -1, api.ErrArg}, {1600, 1, 32, api.ErrArg}, {1600, 2, 30, api.ErrArg}, {1700, 2, 29, api.ErrArg},
		{1900, 2, 29, api.ErrArg}, {2000, 2, 30, api.ErrArg}, {2001, 2, 29, api.ErrArg}, {2004, 2, 30, api.ErrArg},
		{2000, 3, 32, api.ErrArg}, {2000, 4, 31, api.ErrArg}, {2000, 5, 32, api.ErrArg}, {2000, 6, 31, api.ErrArg},
		{2000, 7, 32, api.ErrArg}, {2000, 8, 32, api.ErrArg}, {2000, 9, 31, api.ErrArg}, {2000, 10, 32, api.ErrArg},
		{2000, 11, 31, api.ErrArg}, {2000, 12, 32, api.ErrArg}, {2000, 12, 0, api.ErrArg}, {2000, 2, 0, api.ErrArg},
		// The month and the day of the month come before the year.
		{1599, 13, 1, api.ErrArg}, {1599, 0, 1, api.ErrArg}, {1599, 1, 0, api.ErrArg}, {1599, 2, 30, api.ErrArg},
		{1599, 4, 31, api.ErrArg}, {math.MinInt, 12, 32, api.ErrArg}, {10001, 2, 30, api.ErrArg}, {math.MaxInt, 0, 0, api.ErrArg},
		{5000, 2, 29, api.ErrArg}, {5001, 2, 29, api.ErrArg}, {9999, 2, 29, api.ErrArg}, {9900, 2, 29, api.ErrArg},
		{1599, 1, 1, api.ErrRange}, {1599, 12, 31, api.ErrRange}, {0, 1, 1, api.ErrRange}, {-1600, 1, 1, api.ErrRange},
		// These years have the lengths of leap years, whatever they are.
		{1599, 2, 29, api.ErrRange}, {1500, 2, 29, api.ErrRange}, {-1, 2, 29, api.ErrRange}, {math.MinInt, 2, 29, api.ErrRange},
		{10000, 2, 29, api.ErrRange}, {10001, 2, 29, api.ErrRange}, {10100, 2, 29, api.ErrRange}, {math.MaxInt, 2, 29, api.ErrRange},
		{4337, 11, 29, api.ErrRange}, {4337, 11, 30, api.ErrRange}, {4337, 12, 1, api.ErrRange}, {4338, 1, 1, api.ErrRange},
		{5000, 2, 28, api.ErrRange}, {5004, 2, 29, api.ErrRange}, {6000, 2, 29, api.ErrRange}, {9996, 2, 29, api.ErrRange},
		{9999, 12, 31, api.ErrRange}, {10000, 1, 1, api.ErrRange}, {math.MaxInt, 12, 31, api.ErrRange}, {math.MinInt, 1, 1, api.ErrRange},
		{1 << 32, 1, 1, api.ErrRange}, {1600 + 1<<32, 1, 1, api.ErrRange}, {math.MaxInt / 365, 1, 1, api.ErrRange},
	} {
		if got, err := Day(test.year, test.month, test.day); got != 0 || err != test.want {
			t.Errorf("%d-%d-%d: %d, %d instead of %d", test.year, test.month, test.day, got, err, test.want)
		}
	}
}

// P4.1, D1: all years that have days, and others, with all months and days of the month, and one more.
func TestDayAsDefined(t *testing.T) {
	years := []int{math.MinInt, -1600, -4, 0, 1200, 1500, 5000, 5001, 7200, 9996, 9999, 10000, 10001, 12000, 100000, math.MaxInt}
	for year := 1590; year < 4350; year++ {
		years = append(years, year)
	}
	for _, year := range years {
		for month := range 14 {
			for day := range 33 {
				got, err := Day(year, month, day)
				if want, bad := modelDay(year, month, day); got != want || err != bad {
					t.Errorf("%d-%d-%d: %d, %d instead of %d, %d", year, month, day, got, err, want, bad)
				}
			}
		}
	}
}

// P4.1, P4.2, P4.3, D1 to D3: each day.
func TestEachDay(t *testing.T) {
	before := ""
	year, month, dayOfMonth := 1599, 12, 31
	for day := range lastDay + 1 {
		y, m, d, err := Date(day)
		model := at(day)
		if y != model.Year() || m != int(model.Month()) || d != model.Day() || err != api.OK {
			t.Fatalf("day %d: %d, %d, %d, %d", day, y, m, d, err)
		}
		if slices.Compare([]int{year, month, dayOfMonth}, []int{y, m, d}) >= 0 {
			t.Fatalf("day %d: not a later date than the day before", day)
		}
		if got, err := Day(y, m, d); got != day || err != api.OK {
			t.Fatalf("day %d: its date has the day %d, %d", day, got, err)
		}
		text := Text(day)
		if text != model.Format("2006-01-02") || text <= before {
			t.Fatalf("day %d: %q, after %q", day, text, before)
		}
		if got, err := Parse(text); got != day || err != api.OK {
			t.Fatalf("day %d: its text has the day %d, %d", day, got, err)
		}
		weekday := (int(model.Weekday()) + 6) % 7
		if got := Weekday(day); got != weekday {
			t.Fatalf("day %d: day of the week %d instead of %d", day, got, weekday)
		}
		if got := Work(day, nil); got != (weekday < 5) {
			t.Fatalf("day %d: offices are open: %v", day, got)
		}
		before, year, month, dayOfMonth = text, y, m, d
	}
}

// P4.1, D1 to D3: numbers that are no days.
func TestNumbersThatAreNoDays(t *testing.T) {
	for _, day := range noDays() {
		if y, m, d, err := Date(day); y != 0 || m != 0 || d != 0 || err != api.ErrRange {
			t.Errorf("day %d: %d, %d, %d, %d", day, y, m, d, err)
		}
		if got := Text(day); got != "" {
			t.Errorf("day %d: %q", day, got)
		}
		if got := Weekday(day); got != -1 {
			t.Errorf("day %d: day of the week %d", day, got)
		}
		for _, closed := range [][]int{nil, {}, {day}, {0, lastDay}} {
			if Work(day, closed) {
				t.Errorf("day %d: offices are open", day)
			}
		}
	}
}

// P4.1, D2: texts of no day.
func TestTextsOfNoDay(t *testing.T) {
	for _, text := range []string{
		"", "-", "--", "0", "1600", "1600-01", "1600-01-", "1600-01-0", "1600-01-1", "1600-1-01", "1600-1-1", "1600-001-1", "160-001-01",
		"1600-01-001", "01600-01-01", "1600-01-01 ", " 1600-01-01", "1600-01-01\n", "1600-01-01\x00", "1600-01-012", "1600-01-01-01",
		"16000101", "1600/01/01", "1600.01.01", "1600 01 01", "1600-01_01", "1600_01-01", "1600-01--1", "1600--1-01", "-160-01-01",
		"+160-01-01", "+1600-1-01", "1600-+1-01", "1600-01-+1", "1600-0x-01", "1600-x1-01", "16oo-01-01", "l600-01-01", "1600-01-0l",
		"1600-01- 1", "1600- 1-01", " 600-01-01", "1_00-01-01", "0x60-01-01", "1e03-01-01", "1600-1.-01", "1600-01-1.", "1600-01-1-",
		"1600-00-01", "1600-13-01", "1600-01-00", "1600-01-32", "1600-02-30", "1700-02-29", "1900-02-29", "2000-02-30", "2000-04-31",
		"0000-01-01", "0000-00-00", "0001-01-01", "1599-12-31", "1599-02-29", "1596-02-29", "4337-11-29", "4338-01-01", "5000-01-01",
		"9996-02-29", "9999-12-31", "9999-99-99", "01-01-1600", "1600-01-0\xb1", "1600-01-0\xff", "160\xb0-01-01", "160é-01-01", "1600–01-01",
		"١٦٠٠-٠١-٠١", "1600-01-0１", "1600-01-０", "today", "Saturday", "1600-01-0:", "1600-01-0/", "1600-0:-01", "160/-01-01", "160:-01-01",
		strings.Repeat("1", 10), strings.Repeat("-", 10), strings.Repeat("1600-01-01", 1000), strings.Repeat("\x00", 10),
	} {
		if got, err := Parse(text); got != 0 || err != api.ErrSyntax {
			t.Errorf("%.20q: %d, %d", text, got, err)
		}
	}
}

// P4.1, P4.3, D2: texts that differ from those of days in one byte, in one byte more or less, or in a number.
func TestTextsLikeThoseOfDays(t *testing.T) {
	check := func(text string) {
		t.Helper()
		got, err := Parse(text)
		if want, bad := modelParse(text); got != want || err != bad {
			t.Errorf("%q: %d, %d instead of %d, %d", text, got, err, want, bad)
		}
		if err == api.OK && Text(got) != text {
			t.Errorf("%q: another text, %q", text, Text(got))
		}
	}
	for _, day := range []int{0, 1, 2, 30, 59, 60, 365, 366, 36583, 36584, 109631, 146156, 155916, 876641, 999999, lastDay} {
		text := Text(day)
		for i := range len(text) {
			check(text[:i])
			check(text[:i] + text[i+1:])
			for b := range 256 {
				check(text[:i] + string([]byte{byte(b)}) + text[i+1:])
				check(text[:i] + string([]byte{byte(b)}) + text[i:])
				check(text + string([]byte{byte(b)}))
			}
		}
	}
	for _, year := range []int{0, 1500, 1599, 1600, 1700, 1899, 1900, 2000, 2001, 2004, 4336, 4337, 4338, 5000, 9999} {
		for month := range 100 {
			for day := range 100 {
				check(fmt.Sprintf("%04d-%02d-%02d", year, month, day))
				check(fmt.Sprintf("%d-%d-%d", year, month, day))
			}
		}
	}
}

// P4.4: seven days later it is the same day of the week, and no other day of seven has it.
func TestWeeks(t *testing.T) {
	for day := 0; day+7 <= lastDay; day++ {
		if Weekday(day) != Weekday(day+7) || Weekday(day+1) != (Weekday(day)+1)%7 {
			t.Fatalf("day %d: %d, then %d, seven days later %d", day, Weekday(day), Weekday(day+1), Weekday(day+7))
		}
	}
}

// P4.1, P4.4, D3: each week has its five days on which offices are open, less the closed ones.
func TestOpenDaysOfWeeks(t *testing.T) {
	for i, o := range offices() {
		for monday := 2; monday+6 <= lastDay; monday += 7 {
			// Most weeks without closed days are looked at once.
			if i > 0 && monday%97 != 0 && (monday < 155900 || monday > 156900) && monday < lastDay-100 {
				continue
			}
			open, want := 0, 5
			for day := monday; day < monday+7; day++ {
				if Work(day, o.closed) != o.works(day) {
					t.Fatalf("office %d, day %d: open: %v", i, day, Work(day, o.closed))
				}
				if Work(day, o.closed) {
					open++
				}
				if day < monday+5 && slices.Contains(o.closed, day) {
					want--
				}
			}
			if open != want {
				t.Fatalf("office %d, week of day %d: %d open days instead of %d", i, monday, open, want)
			}
		}
	}
}

// P4.1, D3: what is in the list matters, not how often, in what order, or what else.
func TestClosedDays(t *testing.T) {
	for _, test := range []struct {
		day    int
		closed []int
		want   bool
	}{
		{2, nil, true}, {2, []int{}, true}, {2, []int{2}, false}, {2, []int{3}, true}, {2, []int{1, 3, 9}, true},
		{2, []int{2, 2}, false}, {2, []int{5, 4, 3, 2}, false}, {2, []int{2, 3, 4, 5}, false}, {0, nil, false}, {1, nil, false},
		{0, []int{0}, false}, {6, nil, true}, {7, nil, false}, {8, nil, false}, {9, nil, true}, {7, []int{6, 9}, false},
		{2, noDays(), true}, {2, append(noDays(), 2), false}, {7, append(noDays(), 2), false}, {2, []int{-2}, true},
		{999998, nil, true}, {999998, []int{999998}, false}, {999999, nil, false}, {lastDay, nil, false}, {lastDay, []int{lastDay}, false},
		// Only Add has a limit.
		{2, slices.Repeat([]int{3}, 1001), true}, {2, append(slices.Repeat([]int{3}, 1001), 2), false}, {2, append([]int{2}, make([]int, 100000)...), false},
	} {
		if got := Work(test.day, test.closed); got != test.want {
			t.Errorf("day %d, %d closed days: %v", test.day, len(test.closed), got)
		}
	}
}

// P4.5: the same date 400 years later is 146097 days later, and so is the same day of the week.
func TestFourHundredYears(t *testing.T) {
	for day := range lastDay + 1 {
		year, month, dayOfMonth, _ := Date(day)
		later, err := Day(year+400, month, dayOfMonth)
		if day > lastDay-146097 {
			if later != 0 || err != api.ErrRange {
				t.Fatalf("day %d: 400 years later %d, %d", day, later, err)
			}
			continue
		}
		if later != day+146097 || err != api.OK || Weekday(later) != Weekday(day) {
			t.Fatalf("day %d: 400 years later %d, %d", day, later, err)
		}
		if y, m, d, _ := Date(day + 146097); y != year+400 || m != month || d != dayOfMonth {
			t.Fatalf("day %d: 146097 days later %d-%d-%d", day, y, m, d)
		}
	}
}

// P4.1, D4: the examples of the chapter.
func TestExamplesOfTerms(t *testing.T) {
	for _, test := range []struct {
		day    int
		term   api.Term
		closed []int
		want   int
	}{
		{2, api.Term{N: 1, Unit: api.UnitDay}, nil, 3},
		{2, api.Term{N: 4, Unit: api.UnitWork}, nil, 6},
		{2, api.Term{N: 5, Unit: api.UnitWork}, nil, 9},
		{2, api.Term{N: 5, Unit: api.UnitDay}, nil, 9},
		{30, api.Term{N: 1, Unit: api.UnitMonth}, nil, 59},
	} {
		if got, err := Add(test.day, test.term, test.closed); got != test.want || err != api.OK {
			t.Errorf("day %d, term %v: %d, %d", test.day, test.term, got, err)
		}
	}
}

// P4.1, P4.7, D4: these ends were computed by another program.
func TestKnownTerms(t *testing.T) {
	for _, test := range []struct {
		day     string
		n, unit int
		closed  []string
		want    string
	}{
		{"2026-11-19", 0, api.UnitDay, []string{}, "2026-11-19"},
		{"2026-11-19", 1, api.UnitDay, []string{}, "2026-11-20"},
		{"2026-11-19", 2, api.UnitDay, []string{}, "2026-11-23"},
		{"2026-11-19", 3, api.UnitDay, []string{}, "2026-11-23"},
		{"2026-11-19", 1, api.UnitDay, []string{"2026-11-20"}, "2026-11-23"},
		{"2026-11-19", 1, api.UnitDay, []string{"2026-11-20", "2026-11-23", "2026-11-25"}, "2026-11-24"},
		{"2026-11-21", 0, api.UnitDay, []string{}, "2026-11-23"},
		{"2026-11-21", 0, api.UnitWork, []string{}, "2026-11-23"},
		{"2026-11-21", 1, api.UnitWork, []string{}, "2026-11-23"},
		{"2026-11-22", 0, api.UnitWork, []string{"2026-11-23"}, "2026-11-24"},
		{"2026-11-22", 1, api.UnitWork, []string{"2026-11-23"}, "2026-11-24"},
		{"2026-11-19", 2, api.UnitWeek, []string{}, "2026-12-03"},
		{"2026-11-19", 2, api.UnitWeek, []string{"2026-12-03"}, "2026-12-04"},
		{"2026-11-21", 52, api.UnitWeek, []string{}, "2027-11-22"},
		{"2027-01-31", 1, api.UnitMonth, []string{}, "2027-03-01"},
		{"2027-12-31", 2, api.UnitMonth, []string{}, "2028-02-29"},
		{"2028-01-29", 1, api.UnitMonth, []string{}, "2028-02-29"},
		{"2028-01-30", 1, api.UnitMonth, []string{}, "2028-02-29"},
		{"2028-01-31", 1, api.UnitMonth, []string{}, "2028-02-29"},
		{"2027-01-29", 1, api.UnitMonth, []string{}, "2027-03-01"},
		{"2028-08-31", 1, api.UnitMonth, []string{}, "2028-10-02"},
		{"2028-10-31", 13, api.UnitMonth, []string{}, "2029-11-30"},
		{"1899-12-31", 2, api.UnitMonth, []string{}, "1900-02-28"},
		{"1999-12-31", 2, api.UnitMonth, []string{}, "2000-02-29"},
		{"2000-01-30", 1, api.UnitMonth, []string{"2000-02-29"}, "2000-03-01"},
		{"2028-02-29", 1, api.UnitYear, []string{}, "2029-02-28"},
		{"2028-02-29", 4, api.UnitYear, []string{}, "2032-03-01"},
		{"1896-02-29", 4, api.UnitYear, []string{}, "1900-02-28"},
		{"1996-02-29", 4, api.UnitYear, []string{}, "2000-02-29"},
		{"1600-02-29", 2400, api.UnitYear, []string{}, "4000-02-29"},
		{"2028-02-29", 12, api.UnitMonth, []string{}, "2029-02-28"},
		{"2026-12-01", 1, api.UnitMonth, []string{}, "2027-01-01"},
		{"2026-12-31", 12, api.UnitMonth, []string{}, "2027-12-31"},
		{"2026-11-19", 1, api.UnitWork, []string{}, "2026-11-20"},
		{"2026-11-19", 2, api.UnitWork, []string{}, "2026-11-23"},
		{"2026-11-19", 10, api.UnitWork, []string{}, "2026-12-03"},
		{"2026-11-19", 10, api.UnitWork, []string{"2026-11-20", "2026-11-21", "2026-12-04"}, "2026-12-07"},
		{"2026-11-19", 250, api.UnitWork, []string{}, "2027-11-04"},
		{"1600-01-01", 100000, api.UnitWork, []string{}, "1983-04-22"},
	} {
		var closed []int
		for _, text := range test.closed {
			closed = append(closed, date(t, text))
		}
		got, err := Add(date(t, test.day), api.Term{N: test.n, Unit: test.unit}, closed)
		if Text(got) != test.want || err != api.OK {
			t.Errorf("%s, %d of unit %d: %s, %d instead of %s", test.day, test.n, test.unit, Text(got), err, test.want)
		}
	}
}

// P4.1, D4: terms of all units, with all kinds of closed days.
func TestAddAsDefined(t *testing.T) {
	for i, o := range offices() {
		for _, unit := range units() {
			for j, day := range someDays() {
				for k, n := range someNumbers() {
					// Long terms are computed from some days only.
					if n > 100 && (i+j+k)%23 != 0 {
						continue
					}
					term := api.Term{N: n, Unit: unit}
					got, err := Add(day, term, o.closed)
					if want, bad := o.modelEnd(day, term); got != want || err != bad {
						t.Fatalf("office %d, day %d, term %v: %d, %d instead of %d, %d", i, day, term, got, err, want, bad)
					}
				}
			}
		}
	}
}

// P4.1, D4: the errors, and which of several is returned.
func TestErrorsOfAdd(t *testing.T) {
	full := make([]int, 1000)
	for i := range full {
		full[i] = 2 * i
	}
	more := append(slices.Clone(full), 7)
	good := api.Term{N: 1, Unit: api.UnitDay}
	long := api.Term{N: 1000000, Unit: api.UnitWeek}
	for _, test := range []struct {
		name   string
		day    int
		term   api.Term
		closed []int
		want   api.Errno
	}{
		{"nothing wrong", 0, good, nil, api.OK},
		{"the day before the first one", -1, good, nil, api.ErrArg},
		{"the day after the last one", lastDay + 1, api.Term{Unit: api.UnitDay}, nil, api.ErrArg},
		{"no unit", 0, api.Term{N: 1}, nil, api.ErrArg},
		{"a unit before UnitDay", 0, api.Term{N: 1, Unit: api.UnitDay - 2}, nil, api.ErrArg},
		{"a unit after UnitWork", 0, api.Term{N: 1, Unit: api.UnitWork + 1}, nil, api.ErrArg},
		{"N of -1", 0, api.Term{N: -1, Unit: api.UnitDay}, nil, api.ErrArg},
		{"N of -1 from a later day", 10, api.Term{N: -1, Unit: api.UnitDay}, nil, api.ErrArg},
		{"N of 1000000", 0, api.Term{N: 1000000, Unit: api.UnitDay}, nil, api.ErrRange},
		{"N of 1000001", 0, api.Term{N: 1000001, Unit: api.UnitDay}, nil, api.ErrArg},
		{"1000 closed days", 0, good, full, api.OK},
		{"1001 closed days", 0, good, more, api.ErrLimit},
		{"1001 times one closed day", 0, good, slices.Repeat([]int{7}, 1001), api.ErrLimit},
		{"1000 times one closed day", 0, good, slices.Repeat([]int{7}, 1000), api.OK},
		{"1001 closed days that are no days", 0, good, slices.Repeat([]int{-1}, 1001), api.ErrLimit},
		{"1000 closed days that are no days", 0, good, slices.Repeat([]int{-1}, 1000), api.OK},
		{"a term that is too long", 0, long, nil, api.ErrRange},
		{"ErrArg before ErrLimit: the day", -1, good, more, api.ErrArg},
		{"ErrArg before ErrLimit: the unit", 0, api.Term{N: 1}, more, api.ErrArg},
		{"ErrArg before ErrLimit: N", 0, api.Term{N: 1000001, Unit: api.UnitDay}, more, api.ErrArg},
		{"ErrArg before ErrRange", lastDay + 1, long, nil, api.ErrArg},
		{"ErrLimit before ErrRange", 0, long, more, api.ErrLimit},
		{"all errors", -1, api.Term{N: -1, Unit: 9}, more, api.ErrArg},
	} {
		got, err := Add(test.day, test.term, test.closed)
		if err != test.want || err != api.OK && got != 0 {
			t.Errorf("%s: %d, %d", test.name, got, err)
		}
	}
	for _, unit := range units() {
		for n, want := range map[int]api.Errno{-1: api.ErrArg, 0: api.OK, 1: api.OK, 1000000: api.ErrRange, 1000001: api.ErrArg} {
			if got, err := Add(2, api.Term{N: n, Unit: unit}, nil); err != want || err != api.OK && got != 0 {
				t.Errorf("N of %d, unit %d: %d, %d", n, unit, got, err)
			}
		}
	}
}

// P4.1, D4: terms whose first or second step would lead beyond the last day, which is a Sunday.
func TestTermsThatEndTooLate(t *testing.T) {
	const friday = lastDay - 2
	for _, test := range []struct {
		name    string
		day     int
		n, unit int
		closed  []int
		want    int
	}{
		{"the last open day", friday, 0, api.UnitDay, nil, friday},
		{"0 days from a Saturday", friday + 1, 0, api.UnitDay, nil, 0},
		{"0 weeks from the last day", lastDay, 0, api.UnitWeek, nil, 0},
		{"0 months from the last day", lastDay, 0, api.UnitMonth, nil, 0},
		{"0 years from the last day", lastDay, 0, api.UnitYear, nil, 0},
		{"0 working days from the last day", lastDay, 0, api.UnitWork, nil, 0},
		{"0 working days from the last open day", friday, 0, api.UnitWork, nil, friday},
		{"the last open day is closed", friday, 0, api.UnitDay, []int{friday}, 0},
		{"days up to the last open day", friday - 4, 4, api.UnitDay, nil, friday},
		{"days up to a closed day", friday - 4, 4, api.UnitDay, []int{friday}, 0},
		{"days up to the last day", friday - 4, 6, api.UnitDay, nil, 0},
		{"days beyond the last day", friday - 4, 7, api.UnitDay, nil, 0},
		{"weeks up to the last open day", friday - 700, 100, api.UnitWeek, nil, friday},
		{"weeks up to the last day", lastDay - 700, 100, api.UnitWeek, nil, 0},
		{"weeks beyond the last day", friday - 700, 101, api.UnitWeek, nil, 0},
		{"a month up to the last open day", date(t, "4337-10-26"), 1, api.UnitMonth, nil, friday},
		{"a month up to the last day", date(t, "4337-10-28"), 1, api.UnitMonth, nil, 0},
		{"a month beyond the last day", date(t, "4337-10-29"), 1, api.UnitMonth, nil, 0},
		{"a month beyond the last day, shortened", date(t, "4337-10-31"), 1, api.UnitMonth, nil, 0},
		{"years up to the last open day", date(t, "1600-11-26"), 2737, api.UnitYear, nil, friday},
		{"years up to the last day", date(t, "1600-11-28"), 2737, api.UnitYear, nil, 0},
		{"years beyond the last day", date(t, "1600-11-29"), 2737, api.UnitYear, nil, 0},
		{"February 29 of a year without days", date(t, "4336-02-29"), 4, api.UnitYear, nil, 0},
		{"years after 9999", date(t, "4336-02-29"), 10000, api.UnitYear, nil, 0},
		{"working days up to the last open day", friday - 4, 4, api.UnitWork, nil, friday},
		{"working days beyond the last day", friday - 4, 5, api.UnitWork, nil, 0},
		{"working days, the last one closed", friday - 4, 4, api.UnitWork, []int{friday}, 0},
		{"working days, an earlier one closed", friday - 4, 4, api.UnitWork, []int{friday - 1}, 0},
		{"fewer working days, an earlier one closed", friday - 4, 3, api.UnitWork, []int{friday - 1}, friday},
		{"all working days after the first day", 0, 714285, api.UnitWork, nil, friday},
		{"one working day more", 0, 714286, api.UnitWork, nil, 0},
		{"all working days but one", 0, 714285, api.UnitWork, []int{2}, 0},
	} {
		want := api.OK
		if test.want == 0 {
			want = api.ErrRange
		}
		got, err := Add(test.day, api.Term{N: test.n, Unit: test.unit}, test.closed)
		if got != test.want || err != want {
			t.Errorf("%s: %d, %d instead of %d, %d", test.name, got, err, test.want, want)
		}
	}
}

// P4.1, P4.4, D3, D4: weeks all of whose days are closed: whatever ends there ends after them.
func TestClosedWeeks(t *testing.T) {
	var weeks []int
	for day := 9; day < 9+7*140; day++ {
		weeks = append(weeks, day)
	}
	after := 9 + 7*140 // a Monday
	for day := 7; day < after; day++ {
		for _, unit := range units() {
			if got, err := Add(day, api.Term{Unit: unit}, weeks); Work(day, weeks) || got != after || err != api.OK {
				t.Errorf("day %d, unit %d: %d, %d", day, unit, got, err)
			}
		}
		if got, err := Add(day, api.Term{N: 3, Unit: api.UnitWork}, weeks); got != after+2 || err != api.OK {
			t.Errorf("day %d, 3 working days: %d, %d", day, got, err)
		}
		if got, err := Add(3, api.Term{N: day - 3, Unit: api.UnitDay}, weeks); got != after || err != api.OK {
			t.Errorf("day %d: %d, %d", day, got, err)
		}
	}
	// The same list from the other end, and all of it at the end of time.
	slices.Reverse(weeks)
	if got, err := Add(2, api.Term{N: 5, Unit: api.UnitWork}, weeks); got != after || err != api.OK {
		t.Errorf("%d, %d", got, err)
	}
	for i := range weeks {
		weeks[i] = lastDay - i
	}
	first := lastDay - len(weeks) + 1
	for _, day := range []int{first, first + 100, lastDay} {
		for _, unit := range units() {
			if got, err := Add(day, api.Term{Unit: unit}, weeks); got != 0 || err != api.ErrRange {
				t.Errorf("day %d, unit %d: %d, %d", day, unit, got, err)
			}
		}
	}
}

// P4.6: the end is a day on which offices are open, not before the beginning; without closed days it is at most two days
// after the first step.
func TestEnds(t *testing.T) {
	for i, o := range offices() {
		for _, unit := range units() {
			for _, day := range someDays() {
				for _, n := range []int{0, 1, 2, 5, 6, 12, 30} {
					term := api.Term{N: n, Unit: unit}
					end := ends(t, day, term, o.closed)
					step, err := o.modelStep(day, term)
					if end > lastDay {
						if err == api.OK && step+2 <= lastDay && i == 0 {
							t.Fatalf("day %d, term %v: it would end at most two days after %d", day, term, step)
						}
						continue
					}
					if !Work(end, o.closed) || end < day || err != api.OK || end < step {
						t.Fatalf("office %d, day %d, term %v: %d", i, day, term, end)
					}
					if len(o.closed) == 0 && end > step+2 {
						t.Fatalf("day %d, term %v: %d, first step %d", day, term, end, step)
					}
				}
			}
		}
	}
}

// P4.7: the same day of the month, or the last one of a shorter month, moved to a Monday if that is a Saturday or a
// Sunday.
func TestMonths(t *testing.T) {
	moved := 0
	for _, day := range someDays() {
		year, month, dayOfMonth, _ := Date(day)
		for n := range 60 {
			later, laterMonth := year+(month-1+n)/12, (month-1+n)%12+1
			step, err := Day(later, laterMonth, dayOfMonth)
			for shorter := dayOfMonth - 1; err == api.ErrArg && shorter >= 28; shorter-- {
				step, err = Day(later, laterMonth, shorter)
				moved++
			}
			want := step + []int{0, 0, 0, 0, 0, 2, 1}[(step+5)%7]
			if err != api.OK || want > lastDay {
				want = lastDay + 1
			}
			end := ends(t, day, api.Term{N: n, Unit: api.UnitMonth}, nil)
			if end != want {
				t.Fatalf("day %d, %d months: %d instead of %d", day, n, end, want)
			}
		}
	}
	if moved == 0 {
		t.Error("no month was shorter")
	}
}

// P4.7: twelve months are a year, with all kinds of closed days.
func TestYears(t *testing.T) {
	for i, o := range offices() {
		for _, day := range someDays() {
			for _, n := range []int{0, 1, 2, 3, 4, 5, 100, 400, 2337, 2737, 2738, 83333} {
				years := ends(t, day, api.Term{N: n, Unit: api.UnitYear}, o.closed)
				months := ends(t, day, api.Term{N: 12 * n, Unit: api.UnitMonth}, o.closed)
				if years != months {
					t.Fatalf("office %d, day %d: %d years end on %d, %d months on %d", i, day, n, years, 12*n, months)
				}
			}
		}
	}
}

// P4.8: a term of N working days has exactly N days on which offices are open after its beginning, its end included.
func TestWorkingDays(t *testing.T) {
	for i, o := range offices() {
		for _, day := range someDays() {
			for _, n := range []int{1, 2, 3, 4, 5, 6, 10, 40} {
				end := ends(t, day, api.Term{N: n, Unit: api.UnitWork}, o.closed)
				open := 0
				for d := day + 1; d <= min(end, lastDay); d++ {
					// Work itself would search the closed days each time.
					if o.works(d) {
						open++
					}
				}
				if end <= lastDay && (open != n || !Work(end, o.closed)) || end > lastDay && open >= n {
					t.Fatalf("office %d, day %d, %d working days: up to %d there are %d", i, day, n, end, open)
				}
			}
		}
	}
}

// P4.9: a longer term, and one that begins later, do not end earlier.
func TestLongerAndLater(t *testing.T) {
	for i, o := range offices() {
		for _, unit := range units() {
			for _, day := range someDays() {
				before := 0
				for n := range 15 {
					end := ends(t, day, api.Term{N: n, Unit: unit}, o.closed)
					if end < before {
						t.Fatalf("office %d, day %d: %d of unit %d end on %d, one less on %d", i, day, n, unit, end, before)
					}
					before = end
				}
				for _, n := range []int{0, 1, 4, 13} {
					if day == lastDay {
						continue
					}
					term := api.Term{N: n, Unit: unit}
					end, later := ends(t, day, term, o.closed), ends(t, day+1, term, o.closed)
					if later < end {
						t.Fatalf("office %d, term %v: from day %d up to %d, from the next one up to %d", i, term, day, end, later)
					}
				}
			}
		}
	}
}

// P4.9: with a further closed day, a term does not end earlier, and later only if this day is open and not beyond the
// end.
func TestFurtherClosedDay(t *testing.T) {
	random := rand.New(rand.NewPCG(9, 4337))
	for range 20000 {
		day := 155900 + random.IntN(60)
		if random.IntN(4) == 0 {
			day = lastDay - random.IntN(60)
		}
		var closed []int
		for range random.IntN(25) {
			closed = append(closed, day+random.IntN(40)-5)
		}
		further := day + random.IntN(40) - 5
		term := api.Term{N: random.IntN(12), Unit: units()[random.IntN(5)]}
		end, later := ends(t, day, term, closed), ends(t, day, term, append(slices.Clone(closed), further))
		if later < end {
			t.Fatalf("day %d, term %v, closed %v and %d: %d instead of %d", day, term, closed, further, later, end)
		}
		matters := Work(further, closed) && further <= end && further >= day
		if later > end && !matters {
			t.Fatalf("day %d, term %v, closed %v and %d: %d instead of %d", day, term, closed, further, later, end)
		}
	}
}

// P4.1, D4: the order of closed days, those that are there twice, and those that are no days, make no difference.
func TestListOfClosedDays(t *testing.T) {
	closed := []int{155917, 155920, 155921, 155923, 155930}
	other := append([]int{155930, 155917, 155923, 155921, 155923, 155920, 155917}, noDays()...)
	for day := 155900; day < 155935; day++ {
		if Work(day, closed) != Work(day, other) {
			t.Errorf("day %d", day)
		}
		for _, unit := range units() {
			for n := range 20 {
				term := api.Term{N: n, Unit: unit}
				if ends(t, day, term, closed) != ends(t, day, term, other) {
					t.Errorf("day %d, term %v", day, term)
				}
			}
		}
	}
}

// DOC.md, P1: nothing panics, whatever the numbers, texts and lists are, and with an error there is no other result.
func TestAllArguments(t *testing.T) {
	numbers := append(noDays(), 0, 1, 2, 12, 13, 28, 29, 30, 31, 32, 1599, 1600, 9999, 10000, 999999, 1000000, -9, 5, 6)
	lists := [][]int{nil, {}, {0}, numbers, make([]int, 1000), make([]int, 1001), make([]int, 100000)}
	for _, x := range numbers {
		if y, m, d, err := Date(x); (err == api.OK) != (m > 0) || (err == api.OK) != (d > 0) || (err == api.OK) != (y > 0) {
			t.Errorf("day %d: %d, %d, %d, %d", x, y, m, d, err)
		}
		if got := Text(x); (got != "") != (Weekday(x) >= 0) {
			t.Errorf("day %d: %q, %d", x, got, Weekday(x))
		}
		for _, y := range numbers {
			for _, z := range numbers {
				if got, err := Day(x, y, z); err != api.OK && got != 0 || got < 0 || got > lastDay {
					t.Errorf("%d-%d-%d: %d, %d", x, y, z, got, err)
				}
			}
		}
		for _, l := range lists {
			if Work(x, l) && Weekday(x) < 0 {
				t.Errorf("day %d: offices are open", x)
			}
			for _, y := range numbers {
				for _, unit := range append(numbers, units()...) {
					if got, err := Add(x, api.Term{N: y, Unit: unit}, l); err != api.OK && got != 0 || err == api.OK && !Work(got, l) {
						t.Errorf("day %d, %d of unit %d: %d, %d", x, y, unit, got, err)
					}
				}
			}
		}
	}
	for _, text := range []string{"\xff", strings.Repeat("9", 10), strings.Repeat("\xff", 10), strings.Repeat("1600-01-01", 100000)} {
		if got, err := Parse(text); got != 0 || err != api.ErrSyntax {
			t.Errorf("%.20q: %d, %d", text, got, err)
		}
	}
}

// DOC.md, P3: equal arguments yield equal results, wherever they are in memory and whoever calls at the same time.
func TestEqualArguments(t *testing.T) {
	closed := []int{155917, 155920, 155921, -1}
	term := api.Term{N: 7, Unit: api.UnitWork}
	end := ends(t, 155916, term, closed)
	var group sync.WaitGroup
	for range 8 {
		group.Go(func() {
			for range 200 {
				again, err := Add(155916, term, slices.Clone(closed))
				day, bad := Parse(string([]byte("2026-11-19")))
				if again != end || err != api.OK || day != 155916 || bad != api.OK || !Work(155916, slices.Clone(closed)) || Text(day) != "2026-11-19" {
					t.Error("another result for equal arguments")
					return
				}
			}
		})
	}
	group.Wait()
	for day := 155900; day < 155930; day++ {
		if Work(day, nil) != Work(day, []int{}) || ends(t, day, term, nil) != ends(t, day, term, []int{}) {
			t.Errorf("day %d: a nil slice and an empty one are equivalent", day)
		}
	}
}

// Rules of DOC.md: arguments are not modified, and not kept: what a caller does with the list later makes no difference.
func TestMemory(t *testing.T) {
	// There is room behind the list, which nobody may write to.
	long := []int{155921, 155920, -1, 155917, 155917, 155924}
	closed := long[:5]
	kept := slices.Clone(long)
	term := api.Term{N: 3, Unit: api.UnitWork}
	end := ends(t, 155916, term, closed)
	if Work(155917, closed) || !slices.Equal(long, kept) {
		t.Errorf("the list was changed: %v", long)
	}
	closed[0], closed[1], closed[3], closed[4] = 1, 1, 1, 1
	if without := ends(t, 155916, term, nil); ends(t, 155916, term, closed) != without || without == end || !Work(155917, closed) {
		t.Error("the list was kept")
	}
}
