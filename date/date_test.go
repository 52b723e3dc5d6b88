package date

import (
	"fmt"
	"math"
	"strings"
	"testing"
	"time"

	"library/api"
)

// outside are numbers that are no days.
var outside = []int{
	math.MinInt, math.MinInt + 1, math.MinInt32, -api.MaxDay, -366, -7, -2, -1,
	api.MaxDay + 1, api.MaxDay + 2, api.MaxDay + 7, 2 * api.MaxDay, math.MaxInt32, 1 << 32, math.MaxInt - 1, math.MaxInt,
}

// far are numbers that are far from any year, month or day of the month; those near 2^32 and 2^63 are near again if they wrap around.
var far = []int{
	math.MinInt, math.MinInt + 1, math.MinInt + 2000, math.MinInt32, -2000, -1, 10000, math.MaxInt32, 1<<32 + 1, 1<<32 + 2000, math.MaxInt - 1, math.MaxInt,
}

// timeOf returns a day as the standard library's time.
func timeOf(day int) time.Time {
	return time.Date(1900, time.January, 1+day, 0, 0, 0, 0, time.UTC)
}

// lengthOf returns what the document says of the length of a month.
func lengthOf(y, m int) int {
	switch {
	case y < 1900 || y > 2199 || m < 1 || m > 12:
		return 0
	case m == 4 || m == 6 || m == 9 || m == 11:
		return 30
	case m != 2:
		return 31
	case y == 1900 || y == 2100 || y%4 != 0:
		return 28
	}
	return 29
}

// checkOf compares Of with what it must return.
func checkOf(t *testing.T, y, m, d, want int, wantErr api.Errno) {
	t.Helper()
	if day, err := Of(y, m, d); day != want || err != wantErr {
		t.Errorf("Of(%d, %d, %d) is %d, error %d, not %d, error %d", y, m, d, day, int(err), want, int(wantErr))
	}
}

// checkMonths compares Months with what it must return.
func checkMonths(t *testing.T, day, n, want int, wantErr api.Errno) {
	t.Helper()
	if got, err := Months(day, n); got != want || err != wantErr {
		t.Errorf("Months(%d, %d) is %d, error %d, not %d, error %d", day, n, got, int(err), want, int(wantErr))
	}
}

// checkParse compares Parse with what it must return.
func checkParse(t *testing.T, s string, want int, wantErr api.Errno) {
	t.Helper()
	if day, err := Parse(s); day != want || err != wantErr {
		t.Errorf("Parse(%q) is %d, error %d, not %d, error %d", s, day, int(err), want, int(wantErr))
	}
}

// must returns the day of a date that exists.
func must(t *testing.T, s string) int {
	t.Helper()
	day, err := Parse(s)
	if err != api.OK || Format(day) != s {
		t.Fatalf("Parse(%q) is %d, error %d", s, day, int(err))
	}
	return day
}

// P3.1 to P3.4: the chapter's examples.
func TestExamples(t *testing.T) {
	checkOf(t, 2026, 11, 16, 46340, api.OK)
	checkOf(t, 1900, 2, 29, 0, api.ErrRange)
	checkOf(t, 2000, 2, 29, 36583, api.OK)
	if w, s := Weekday(46340), Format(46340); w != 0 || s != "2026-11-16" {
		t.Errorf("46340 is %q, weekday %d", s, w)
	}
	checkMonths(t, 30, 1, 58, api.OK)
	checkMonths(t, 0, -1, 0, api.ErrRange)
	checkParse(t, "2199-12-31", 109572, api.OK)
	checkParse(t, "2026-02-30", 0, api.ErrRange)
	checkParse(t, "2026-2-3", 0, api.ErrForm)
}

// P3.1 to P3.5: every day has the date, the weekday and the text of the Gregorian calendar, there and back.
func TestEveryDay(t *testing.T) {
	for day := 0; day <= api.MaxDay; day++ {
		want := timeOf(day)
		y, m, d, err := Parts(day)
		if y != want.Year() || m != int(want.Month()) || d != want.Day() || err != api.OK {
			t.Fatalf("Parts(%d) is %d, %d, %d, error %d, not %s", day, y, m, d, int(err), want)
		}
		checkOf(t, y, m, d, day, api.OK)
		if w := Weekday(day); w != (int(want.Weekday())+6)%7 {
			t.Errorf("Weekday(%d) is %d, a %s", day, w, want.Weekday())
		}
		if s := Format(day); s != want.Format("2006-01-02") {
			t.Errorf("Format(%d) is %q", day, s)
		}
		checkParse(t, want.Format("2006-01-02"), day, api.OK)
		checkMonths(t, day, 0, day, api.OK)
	}
}

// P3.5: the day after a day has a later date, and the next weekday.
func TestNextDay(t *testing.T) {
	if Weekday(0) != 0 {
		t.Errorf("Weekday(0) is %d, but day 0 is a Monday", Weekday(0))
	}
	for day := 0; day < api.MaxDay; day++ {
		if before, after := Format(day), Format(day+1); after <= before {
			t.Errorf("day %d is %q, and the next one %q", day, before, after)
		}
		if before, after := Weekday(day), Weekday(day+1); after != (before+1)%7 {
			t.Errorf("day %d has weekday %d, and the next one %d", day, before, after)
		}
	}
}

// P3.1, P3.2, P3.3 and P3.4: numbers outside of the days.
func TestNoDays(t *testing.T) {
	for _, day := range outside {
		if y, m, d, err := Parts(day); y != 0 || m != 0 || d != 0 || err != api.ErrRange {
			t.Errorf("Parts(%d) is %d, %d, %d, error %d", day, y, m, d, int(err))
		}
		if w := Weekday(day); w != -1 {
			t.Errorf("Weekday(%d) is %d", day, w)
		}
		if s := Format(day); s != "" {
			t.Errorf("Format(%d) is %q", day, s)
		}
		for _, n := range append([]int{0, 1, -1, 12, -12, day, -day}, outside...) {
			checkMonths(t, day, n, 0, api.ErrRange)
		}
	}
}

// P3.1 and P3.2: all dates near the bounds of years, months and days of the month.
func TestBounds(t *testing.T) {
	day := 0
	for y := 1897; y <= 2202; y++ {
		for m := -1; m <= 14; m++ {
			length := lengthOf(y, m)
			if n := Length(y, m); n != length {
				t.Errorf("Length(%d, %d) is %d, not %d", y, m, n, length)
			}
			for d := -1; d <= 33; d++ {
				if d < 1 || d > length {
					checkOf(t, y, m, d, 0, api.ErrRange)
					continue
				}
				checkOf(t, y, m, d, day, api.OK)
				day++
			}
		}
	}
	if day != api.MaxDay+1 {
		t.Errorf("the calendar has %d days", day)
	}
}

// P3.1 and P3.2: one number far outside of its bounds is enough, and so are several.
func TestFar(t *testing.T) {
	for _, a := range far {
		checkOf(t, a, 1, 1, 0, api.ErrRange)
		checkOf(t, 2026, a, 1, 0, api.ErrRange)
		checkOf(t, 2026, 11, a, 0, api.ErrRange)
		if n := Length(a, 1) + Length(2026, a); n != 0 {
			t.Errorf("Length of year %d or month %d is %d", a, a, n)
		}
		for _, b := range far {
			checkOf(t, a, b, 1, 0, api.ErrRange)
			checkOf(t, a, 2, b, 0, api.ErrRange)
			checkOf(t, 2026, a, b, 0, api.ErrRange)
			checkOf(t, a, b, a, 0, api.ErrRange)
			if n := Length(a, b); n != 0 {
				t.Errorf("Length(%d, %d) is %d", a, b, n)
			}
		}
	}
}

// P3.1 and P3.2: the last of February in years that are divisible by 4, and in others.
func TestFebruary(t *testing.T) {
	for y, length := range map[int]int{
		1900: 28, 1901: 28, 1902: 28, 1903: 28, 1904: 29, 1908: 29, 1996: 29, 1999: 28, 2000: 29, 2001: 28, 2004: 29,
		2024: 29, 2026: 28, 2096: 29, 2099: 28, 2100: 28, 2101: 28, 2104: 29, 2196: 29, 2199: 28,
	} {
		if n := Length(y, 2); n != length {
			t.Errorf("Length(%d, 2) is %d, not %d", y, n, length)
		}
		first, err := Of(y, 2, 1)
		if err != api.OK {
			t.Fatalf("Of(%d, 2, 1) has error %d", y, int(err))
		}
		checkOf(t, y, 2, length, first+length-1, api.OK)
		checkOf(t, y, 3, 1, first+length, api.OK)
		checkOf(t, y, 2, length+1, 0, api.ErrRange)
		checkParse(t, fmt.Sprintf("%d-02-%d", y, length+1), 0, api.ErrRange)
		if s := Format(first + length); s != fmt.Sprintf("%d-03-01", y) {
			t.Errorf("the day after the last of February %d is %q", y, s)
		}
	}
}

// P3.2: the weekdays of some dates.
func TestWeekday(t *testing.T) {
	for s, want := range map[string]int{
		"1900-01-01": 0, "1900-01-07": 6, "1900-01-08": 0, "1900-02-28": 2, "1900-03-01": 3, "1969-07-20": 6,
		"2000-01-01": 5, "2000-02-29": 1, "2024-02-29": 3, "2026-11-16": 0, "2026-11-22": 6, "2100-02-28": 6, "2100-03-01": 0, "2199-12-31": 1,
	} {
		if w := Weekday(must(t, s)); w != want {
			t.Errorf("the weekday of %s is %d, not %d", s, w, want)
		}
	}
}

// P3.3: forwards and backwards, into shorter months, over the ends of years, and up to the ends of the calendar.
func TestMonths(t *testing.T) {
	for _, c := range []struct {
		from string
		n    int
		to   string
	}{
		{"2026-11-16", 0, "2026-11-16"}, {"2026-11-16", 1, "2026-12-16"}, {"2026-11-16", 2, "2027-01-16"}, {"2026-11-16", -11, "2025-12-16"},
		{"2026-01-31", 1, "2026-02-28"}, {"2024-01-31", 1, "2024-02-29"}, {"2000-01-30", 1, "2000-02-29"}, {"2100-01-31", 1, "2100-02-28"},
		{"2026-01-28", 1, "2026-02-28"}, {"2026-01-29", 1, "2026-02-28"}, {"2024-01-29", 1, "2024-02-29"}, {"2026-02-28", 1, "2026-03-28"},
		{"2026-03-31", -1, "2026-02-28"}, {"2024-03-31", -1, "2024-02-29"}, {"2026-03-30", -1, "2026-02-28"}, {"2026-03-01", -1, "2026-02-01"},
		{"2026-03-31", 1, "2026-04-30"}, {"2026-05-31", 1, "2026-06-30"}, {"2026-07-31", 1, "2026-08-31"}, {"2026-08-31", 1, "2026-09-30"},
		{"2026-10-31", 1, "2026-11-30"}, {"2026-12-31", -1, "2026-11-30"}, {"2026-12-31", 1, "2027-01-31"}, {"2027-01-31", -1, "2026-12-31"},
		{"2024-02-29", 12, "2025-02-28"}, {"2024-02-29", -12, "2023-02-28"}, {"2024-02-29", 48, "2028-02-29"}, {"2096-02-29", 48, "2100-02-28"},
		{"1904-02-29", -48, "1900-02-28"}, {"2026-10-31", -8, "2026-02-28"}, {"2026-12-31", 14, "2028-02-29"}, {"2026-12-31", -10, "2026-02-28"},
		{"1900-01-01", 3599, "2199-12-01"}, {"1900-01-31", 3599, "2199-12-31"}, {"2199-12-31", -3599, "1900-01-31"}, {"2199-12-31", -3598, "1900-02-28"},
		{"1900-02-28", -1, "1900-01-28"}, {"1900-12-31", -11, "1900-01-31"}, {"2199-01-31", 11, "2199-12-31"}, {"2199-11-30", 1, "2199-12-30"},
	} {
		checkMonths(t, must(t, c.from), c.n, must(t, c.to), api.OK)
	}
}

// P3.3: over the ends of the calendar, by the greatest and the least integers among them.
func TestMonthsBeyond(t *testing.T) {
	far := []int{math.MinInt, math.MinInt + 1, math.MinInt32, -1 << 32, -3600, 3600, 1 << 32, math.MaxInt32, math.MaxInt - 1, math.MaxInt}
	for _, s := range []string{"1900-01-01", "1900-01-31", "1900-12-31", "2026-11-16", "2100-02-28", "2199-01-01", "2199-12-01", "2199-12-31"} {
		for _, n := range far {
			checkMonths(t, must(t, s), n, 0, api.ErrRange)
		}
	}
	for _, c := range []struct {
		from string
		n    int
	}{
		{"1900-01-01", -1}, {"1900-01-31", -1}, {"1900-02-01", -2}, {"1900-12-31", -12}, {"1901-01-01", -13}, {"2026-11-16", -1523},
		{"2199-12-01", 1}, {"2199-12-31", 1}, {"2199-11-30", 2}, {"2199-01-01", 12}, {"2198-12-31", 13}, {"2026-11-16", 2078},
	} {
		checkMonths(t, must(t, c.from), c.n, 0, api.ErrRange)
	}
	checkMonths(t, must(t, "2026-11-16"), -1522, must(t, "1900-01-16"), api.OK)
	checkMonths(t, must(t, "2026-11-16"), 2077, must(t, "2199-12-16"), api.OK)
}

// P3.3: from every day of some years by every number of months that stays within the calendar, and by some that do not.
func TestMonthsAll(t *testing.T) {
	first := monthStarts()
	for _, y := range []int{1900, 1904, 2000, 2099, 2199} {
		for m := range 12 {
			month := 12*(y-1900) + m
			for d := range lengthOf(y, m+1) {
				checkMonthsFrom(t, first, month, d)
				if t.Failed() {
					return
				}
			}
		}
	}
}

// monthStarts lists the first day of every month of the calendar.
func monthStarts() []int {
	var first []int
	day := 0
	for month := range 3600 {
		first = append(first, day)
		day += lengthOf(1900+month/12, month%12+1)
	}
	return first
}

// checkMonthsFrom tries the day that is d days behind the first one of a month.
func checkMonthsFrom(t *testing.T, first []int, month, d int) {
	t.Helper()
	for to := -13; to < len(first)+13; to++ {
		if to < 0 || to >= len(first) {
			checkMonths(t, first[month]+d, to-month, 0, api.ErrRange)
			continue
		}
		length := lengthOf(1900+to/12, to%12+1)
		checkMonths(t, first[month]+d, to-month, first[to]+min(d, length-1), api.OK)
	}
}

// P3.4: every byte at every place of a text, and every byte more or less.
func TestParseForm(t *testing.T) {
	const s = "2011-11-11"
	for i := range len(s) {
		for c := range 256 {
			changed := s[:i] + string([]byte{byte(c)}) + s[i+1:]
			_, err := Parse(changed)
			formed := '0' <= c && c <= '9'
			if i == 4 || i == 7 {
				formed = c == '-'
			}
			if formed != (err != api.ErrForm) {
				t.Errorf("Parse(%q) has error %d", changed, int(err))
			}
			checkParse(t, s[:i]+string([]byte{byte(c)})+s[i:], 0, api.ErrForm)
			checkParse(t, s+string([]byte{byte(c)}), 0, api.ErrForm)
		}
		checkParse(t, s[:i], 0, api.ErrForm)
		checkParse(t, s[:i]+s[i+1:], 0, api.ErrForm)
	}
}

// P3.4: texts of other forms.
func TestParseOtherForms(t *testing.T) {
	for _, s := range []string{
		"", " ", "-", "--", "2026", "2026-11", "2026-11-", "2026-2-3", "2026-02-3", "2026-2-03", "02026-11-16", "2026-011-16", "2026-11-016",
		" 2026-11-16", "2026-11-16 ", "2026-11-16\x00", "2026-11-16-", "20261116", "2026/11/16", "2026.11.16", "16-11-2026", "2026--1-16", "2026-+1-16",
		"-026-11-16", "+026-11-16", "2026-11--6", "2026-11- 6", "2026-1-116", "202-611-16", "20261-1-16", "2026_11_16", "2O26-11-16", "0x7e-11-16",
		"2026-11-1\u00a0", "２０２６-11-16", "2026\u201011-16", "２-11-16", "٢٠-11-16", "2026-11-1\xff", "\xff\xff\xff\xff-\xff\xff-\xff\xff", "2026-11-16T00:00:00Z",
		strings.Repeat("0", 10), strings.Repeat("-", 10), strings.Repeat("9", 1000), "2026-13-4x", "x026-02-30", "2026-99_99",
	} {
		checkParse(t, s, 0, api.ErrForm)
	}
}

// P3.4: texts of dates that do not exist.
func TestParseRange(t *testing.T) {
	for _, s := range []string{
		"0000-00-00", "0000-01-01", "0001-01-01", "0026-11-16", "1000-01-01", "1899-12-31", "2200-01-01", "9999-12-31", "9999-99-99",
		"2026-00-01", "2026-13-01", "2026-99-01", "2026-01-00", "2026-01-32", "2026-01-99", "2026-04-31", "2026-06-31", "2026-09-31", "2026-11-31",
		"2026-02-29", "2026-02-30", "2024-02-30", "2000-02-30", "1900-02-29", "2100-02-29", "2026-12-32", "1900-00-31", "1900-01-00", "2199-12-32", "2199-13-01",
	} {
		checkParse(t, s, 0, api.ErrRange)
	}
}

// P3.4: all texts of the shape of a date near the bounds of the calendar, by what the document says of existing dates.
func TestParseAll(t *testing.T) {
	for _, y := range []int{0, 190, 1899, 1900, 1901, 1904, 2000, 2026, 2100, 2199, 2200, 9999} {
		for m := range 100 {
			for d := range 100 {
				s := fmt.Sprintf("%04d-%02d-%02d", y, m, d)
				if d < 1 || d > lengthOf(y, m) {
					checkParse(t, s, 0, api.ErrRange)
				} else if day := must(t, s); !timeOf(day).Equal(time.Date(y, time.Month(m), d, 0, 0, 0, 0, time.UTC)) {
					t.Errorf("Parse(%q) is %d", s, day)
				}
			}
		}
	}
}
