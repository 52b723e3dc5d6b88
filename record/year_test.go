package record

import (
	"fmt"
	"slices"
	"strings"
	"testing"

	"library/api"
)

// wantYear compares Year of a record with fields with what it must return.
func wantYear(t *testing.T, want int, fields ...api.Field) {
	t.Helper()
	r := book(fields...)
	wantRight(t, r, api.OK)
	if got := Year(r); got != want {
		t.Errorf("Year is %d, not %d: %s", got, want, short(shown(r)))
	}
}

// wantYearIn compares Year of a value with what it must return.
func wantYearIn(t *testing.T, value string, want int) {
	t.Helper()
	for _, tag := range []string{"260", "264"} {
		wantYear(t, want, with(tag, sub('c', value)))
	}
}

// P8.6: every number of up to five digits, with and without noughts ahead of it, alone and among other characters.
func TestYearNumbers(t *testing.T) {
	for digits := 1; digits <= 5; digits++ {
		limit := 1
		for range digits {
			limit *= 10
		}
		for n := range limit {
			run := fmt.Sprintf("%0*d", digits, n)
			want := 0
			if digits == 4 && 1000 <= n && n <= 2199 {
				want = n
			}
			wantYearIn(t, run, want)
			wantYearIn(t, "c"+run+".", want)
		}
	}
	for _, run := range []string{"0999", "1000", "2199", "2200", "0000", "9999", "01998", "19980", "001998", "199", "19981998", "11111111111111111111", "18446744073709553614", "99999999999999999999999", strings.Repeat("0", 190) + "1998", strings.Repeat("1998", 49)} {
		want := map[string]int{"1000": 1000, "2199": 2199}[run]
		wantYearIn(t, run, want)
		wantYearIn(t, "["+run+"]", want)
	}
}

// P8.6: all values of up to seven parts: runs of each length, several ones, at the beginning, in the middle and at the end.
func TestYearRuns(t *testing.T) {
	parts := []string{"1", "20", "c", "-"}
	count := 1
	for n := range 8 {
		for code := range count {
			value := ""
			for range n {
				value += parts[code%4]
				code /= 4
			}
			if value != "" {
				wantYearIn(t, value, yearOf(book(with("260", sub('c', value)))))
			}
		}
		count *= 4
	}
}

// P8.6: values in which several runs stand.
func TestYearSeveral(t *testing.T) {
	for value, want := range map[string]int{
		"[c1998, 1999]": 1998, "c11998": 0, "1998": 1998, "1998-1999": 1998, "1999-1998": 1999, "0999-1998": 1998, "2200, 2199": 2199, "998 19998 1998": 1998, "12345 1234": 1234,
		"1234 12345": 1234, "1.9.1998": 1998, "1998/99": 1998, "98/1998": 1998, "1998x1999": 1998, "199 8": 0, "1 998": 0, "1,998": 0, "19-98": 0, "1998.": 1998, ".1998": 1998, " 1998 ": 1998,
		"n.d.": 0, "MCMXCVIII": 0, "[199-?]": 0, "19--": 0, "0000-2199": 2199, "9999-0000": 0, "+1998": 1998, "-1998": 1998, "1e1998": 1998, "0x1998": 1998, "1_998": 0, "1998a1999b": 1998, "a1998b1999": 1998,
		"ca. 1500 or 1600": 1500, "2199 2200": 2199, "1000 0999": 1000, "999 1000": 1000, "12 123 12345 1111 2111": 1111, "$1998": 1998, "#1998": 1998, "19$98": 0, "\u00a01998\u00a0": 1998,
	} {
		wantYearIn(t, value, want)
	}
}

// P8.6: every character ahead of, behind and inside of a year; only 0 to 9 are digits.
func TestYearCharacters(t *testing.T) {
	for c := rune(0x20); c <= 0xffff; c++ {
		if 0x7f <= c && c <= 0x9f || 0xd800 <= c && c <= 0xdfff || c > 0x3100 && c < 0xf000 {
			continue
		}
		one := string(c)
		want := 1998
		if '0' <= c && c <= '9' {
			want = 0
		}
		wantYearIn(t, one+"1998", want)
		wantYearIn(t, "1998"+one, want)
		wantYearIn(t, one+one+"1998"+one+"x", want)
		wantYearIn(t, "19"+one+"98", 0)
		wantYearIn(t, "199"+one, yearOf(book(with("260", sub('c', "199"+one)))))
	}
	for _, value := range []string{"\uff11\uff19\uff19\uff18", "\u0661\u0669\u0669\u0668", "199\uff18", "\uff11998", "\u00b9998", "199\u2078", "1\u0669\u06698"} {
		wantYearIn(t, value, 0)
	}
	wantYearIn(t, "\u06611998\u0668", 1998)
}

// P8.6: values of c in several subfields and in several fields, in either order, in other fields and in other codes.
func TestYearPlaces(t *testing.T) {
	c := func(value string) api.Sub { return sub('c', value) }
	wantYear(t, 1998, with("260", c("1998"), c("1999")))
	wantYear(t, 1999, with("260", c("1999"), c("1998")))
	wantYear(t, 1999, with("264", c("n.d."), c("1999"), c("1998")))
	wantYear(t, 1999, with("264", sub('a', "1997"), c("12345"), sub('b', "1996"), c("x1999x"), c("1998")))
	wantYear(t, 0, with("260", c("19"), c("98")))
	wantYear(t, 0, with("260", c("199"), c("8"), c("1"), c("998")))
	wantYear(t, 0, with("260", c("19")), with("264", c("98")))
	wantYear(t, 1998, with("260", c("1")), with("260", c("1998")), with("264", c("9")))
	wantYear(t, 1998, with("260", c("1998")), with("264", c("1999")))
	wantYear(t, 1999, with("264", c("1999")), with("260", c("1998")))
	wantYear(t, 1998, with("260", c("1998")), with("260", c("1999")))
	wantYear(t, 1999, with("264", c("1999")), with("264", c("1998")))
	wantYear(t, 1998, with("264", c("n.d.")), with("260", c("0999")), with("264", c("1998")), with("260", c("1999")))
	wantYear(t, 1998, with("260", c("2200")), with("264", c("1998")))
	wantYear(t, 1998, with("264", sub('a', "London")), with("260", c("1998")))
	wantYear(t, 1998, with("245", c("1990")), with("261", c("1991")), with("264", c("1998")), with("026", c("1992")))
	wantYear(t, 0)
	for n := 10; n < 1000; n++ {
		tag := fmt.Sprintf("%03d", n)
		if tag != "260" && tag != "264" {
			wantYear(t, 0, with(tag, c("1998")))
			wantYear(t, 2001, with(tag, c("1998")), with("260", c("2001")), with(tag, c("1999")))
		}
	}
	for _, code := range []byte(codes) {
		if code != 'c' {
			wantYear(t, 0, with("260", sub(code, "1998")), with("264", sub(code, "1999")))
			wantYear(t, 2001, with("264", sub(code, "1998"), c("2001"), sub(code, "1999")))
		}
	}
}

// wantSubjects compares Subjects with what it must return.
func wantSubjects(t *testing.T, fields []api.Field, want ...string) {
	t.Helper()
	r := book(fields...)
	wantRight(t, r, api.OK)
	if got := Subjects(r); !slices.Equal(got, want) {
		t.Errorf("Subjects is %q, not %q: %s", got, want, short(shown(r)))
	}
}

// P8.6: each tag; only those that begin with 6 have subjects.
func TestSubjectsTags(t *testing.T) {
	for n := 10; n < 1000; n++ {
		f := with(fmt.Sprintf("%03d", n), sub('a', "Dogs"), sub('x', "History"))
		if n/100 == 6 {
			wantSubjects(t, []api.Field{f}, "Dogs--History")
			wantSubjects(t, []api.Field{with("245", sub('a', "x")), f, with("700", sub('a', "x")), f}, "Dogs--History", "Dogs--History")
		} else {
			wantSubjects(t, []api.Field{f})
			wantSubjects(t, []api.Field{f, with("650", sub('a', "Cats")), f}, "Cats")
		}
	}
}

// P8.6: all sequences of up to five subfields with the codes a, x, y, z and b; their order in the field counts.
func TestSubjectsCodes(t *testing.T) {
	choice := "axyzb"
	count := 5
	for n := 1; n <= 5; n++ {
		for code := range count {
			f := with("650")
			var want []string
			for i := range n {
				value := fmt.Sprintf("%d", i)
				f.Subs = append(f.Subs, sub(choice[code%5], value))
				if code%5 < 4 {
					want = append(want, value)
				}
				code /= 5
			}
			if want == nil {
				wantSubjects(t, []api.Field{f})
			} else {
				wantSubjects(t, []api.Field{f}, strings.Join(want, "--"))
			}
		}
		count *= 5
	}
}

// P8.6: values as they stand in the fields, several fields in their order, and fields that are left out.
func TestSubjects(t *testing.T) {
	wantSubjects(t, nil)
	wantSubjects(t, []api.Field{with("650", sub('2', "fast")), with("651", sub('v', "Maps"), sub('b', "x"))})
	wantSubjects(t, []api.Field{with("650", sub('2', "fast")), with("651", sub('z', "Ohio")), with("600", sub('b', "x"))}, "Ohio")
	wantSubjects(t, []api.Field{with("650", sub('z', "Ohio"), sub('y', "1900"), sub('x', "History"), sub('a', "Dogs"))}, "Ohio--1900--History--Dogs")
	wantSubjects(t, []api.Field{with("650", sub('a', " Dogs "), sub('x', "a--b"), sub('x', " "))}, " Dogs --a--b-- ")
	wantSubjects(t, []api.Field{with("650", sub('a', "-"), sub('a', "--"), sub('z', "-"))}, strings.Repeat("-", 8))
	wantSubjects(t, []api.Field{with("699", sub('a', "1")), with("600", sub('a', "2")), with("650", sub('a', "3")), with("600", sub('a', "1"))}, "1", "2", "3", "1")
	wantSubjects(t, []api.Field{with("650", sub('a', "\u00c9t\u00e9 \u00a0 x"))}, "\u00c9t\u00e9 \u00a0 x")
	wantSubjects(t, times(64), slices.Collect(func(yield func(string) bool) {
		for i := range 64 {
			if !yield(fmt.Sprintf("field %d", i)) {
				return
			}
		}
	})...)
	long := strings.Repeat("x", 200)
	wantSubjects(t, []api.Field{with("650", slices.Repeat([]api.Sub{sub('z', long)}, 16)...)}, strings.Repeat(long+"--", 15)+long)
	for _, code := range []byte(codes) {
		want := "Dogs"
		if strings.IndexByte("axyz", code) >= 0 {
			want += "--1"
		}
		wantSubjects(t, []api.Field{with("650", sub('a', "Dogs"), sub(code, "1"))}, want)
	}
}
