package heading

import (
	"fmt"
	"math/rand"
	"regexp"
	"strings"
	"testing"

	"library/api"
)

// A name by its pieces; First is left out where what follows Last has the form of dates.
var nameForm = regexp.MustCompile(`^([^,]+)(?:, ([^,]+?))??(?:, ([0-9]{4}-(?:[0-9]{4})?))?$`)

// nameOf returns the result and the error that P12.5 describes.
func nameOf(s string) (api.Name, api.Errno) {
	if !isText(s) {
		return api.Name{}, api.ErrForm
	}
	m := nameForm.FindStringSubmatch(s)
	if m == nil {
		return api.Name{}, api.ErrForm
	}
	for _, piece := range m[1:] {
		if cleaned(piece) != piece {
			return api.Name{}, api.ErrForm
		}
	}
	return api.Name{Last: m[1], First: m[2], Dates: m[3]}, api.OK
}

// textOf returns the result and the error that P12.6 describes.
func textOf(n api.Name) (string, api.Errno) {
	s := n.Last
	for _, piece := range []string{n.First, n.Dates} {
		if len(piece) > 0 {
			s = fmt.Sprintf("%s, %s", s, piece)
		}
	}
	if got, err := nameOf(s); got != n || err != api.OK {
		return "", api.ErrForm
	}
	return s, api.OK
}

// shownName shows the parts of a name.
func shownName(n api.Name) string {
	return short(fmt.Sprintf("{%q %q %q}", n.Last, n.First, n.Dates))
}

// wantName checks Name, and P12.7: Text of the result is the text.
func wantName(t *testing.T, s string, want api.Name, wantErr api.Errno) {
	t.Helper()
	got, err := Name(s)
	if got != want || err != wantErr {
		t.Errorf("Name(%q) is %s, error %d, want %s, error %d", short(s), shownName(got), int(err), shownName(want), int(wantErr))
	}
	if wantErr != api.OK {
		return
	}
	if again, err := Text(want); again != s || err != api.OK {
		t.Errorf("Text of %s is %q, error %d, want %q", shownName(want), short(again), int(err), short(s))
	}
}

// wantText checks Text, and that Name of the result is the name.
func wantText(t *testing.T, n api.Name, want string, wantErr api.Errno) {
	t.Helper()
	got, err := Text(n)
	if got != want || err != wantErr {
		t.Errorf("Text of %s is %q, error %d, want %q, error %d", shownName(n), short(got), int(err), short(want), int(wantErr))
	}
	if wantErr != api.OK {
		return
	}
	if again, err := Name(want); again != n || err != api.OK {
		t.Errorf("Name(%q) is %s, error %d, want %s", short(want), shownName(again), int(err), shownName(n))
	}
}

// checkName checks Name against the description.
func checkName(t *testing.T, s string) {
	t.Helper()
	want, err := nameOf(s)
	wantName(t, s, want, err)
}

// checkText checks Text against the description.
func checkText(t *testing.T, n api.Name) {
	t.Helper()
	want, err := textOf(n)
	wantText(t, n, want, err)
}

// P12.5: names of one, two and three pieces.
func TestName(t *testing.T) {
	for _, n := range []api.Name{
		{Last: "Plato"}, {Last: "P"}, {Last: "van den Berg"}, {Last: "\u00c9t\u00e9"}, {Last: "a-b"}, {Last: "-"}, {Last: "a--b"}, {Last: "1900-"}, {Last: "1900-1950"}, {Last: "."}, {Last: "\u65e5\u672c"},
		{Last: "Darwin", First: "Charles"}, {Last: "a", First: "b"}, {Last: "a", First: "1900"}, {Last: "a", First: "b c-d e."}, {Last: "1900-", First: "x"}, {Last: "\u00e9", First: "\u00e9"},
		{Last: "Plato", Dates: "1900-"}, {Last: "Plato", Dates: "1900-1950"}, {Last: "1900-", Dates: "1900-"}, {Last: "a", Dates: "0000-9999"}, {Last: "a", Dates: "9999-0000"},
		{Last: "Darwin", First: "Charles", Dates: "1809-1882"}, {Last: "Darwin", First: "Charles", Dates: "1809-"}, {Last: "a", First: "1900-", Dates: "1900-1950"}, {Last: "1900-", First: "1900-1950", Dates: "1900-"},
	} {
		s := n.Last
		if n.First != "" {
			s += ", " + n.First
		}
		if n.Dates != "" {
			s += ", " + n.Dates
		}
		wantName(t, s, n, api.OK)
		wantText(t, n, s, api.OK)
	}
}

// P12.5: what is no name.
func TestNameWrong(t *testing.T) {
	for _, s := range []string{
		"", " ", "\u00a0", ",", ", ", " ,", ",,", ", , ", "a,b", "a,", "a, ", ",a", ", a", "a ,b", "a , b", "a,  b", "a,\u00a0b", "a, \u00a0b", "a,, b", "a, ,b", "a, , b", "a,b, c", "a, b,c", "a, b,", "a, b, ", ", a, b", "a, b, c,",
		" a", "a ", "a  b", "a\u00a0b", " a, b", "a, b ", "a, b  c", "a  b, c", "a\u00a0, b", "a, b, 1900- ", "a, b , 1900-", "a , b, 1900-", "a, b,  1900-", "a, b,1900-", "a, b  c, 1900-", "a, b\u00a0c, 1900-", "a, , 1900-", ", b, 1900-",
		"a, b, c", "a, 1900-, b", "a, 1900-, 1900", "a, b, 1900", "a, b, c, 1900-", "a, b, 1900-, 1900-", "a, b, c, d, e", "a, b, 1900-1950, ", "a, b, , 1900-",
		"a\n", "\x00", "a, b\x7f", "a, \xff", "\xc3, b", "a, b\u0080, 1900-", "\U0001f600", "a, \U00010000", "\xed\xa0\x80", "a, b, 1900-\n",
	} {
		wantName(t, s, api.Name{}, api.ErrForm)
	}
}

// P12.5: what has the form of dates, and what only looks like it, as each of the pieces.
func TestDates(t *testing.T) {
	for _, s := range []string{"1900-", "1900-1950", "0000-", "9999-9999", "1234-5678", "0987-6543"} {
		wantName(t, "a, "+s, api.Name{Last: "a", Dates: s}, api.OK)
		wantName(t, "a, b, "+s, api.Name{Last: "a", First: "b", Dates: s}, api.OK)
		wantName(t, "a, "+s+", 1900-", api.Name{Last: "a", First: s, Dates: "1900-"}, api.OK)
		wantName(t, s, api.Name{Last: s}, api.OK)
		wantName(t, s+", b", api.Name{Last: s, First: "b"}, api.OK)
		wantName(t, "a, "+s+", b", api.Name{}, api.ErrForm)
	}
	for _, s := range []string{
		"1900", "190-", "19000-", "1900-195", "1900-19500", "190-1950", "19000-1950", "1900--", "1900--1950", "1900-1950-", "-1900", "-1900-", "-", "--", "-1950", "1900-1950x", "1900-x", "x1900-", "19x0-", "1900-19x0",
		"1900\u20131950", "1900\u2010", "1900/1950", "1900.1950", "19001950", "190001950", "1900 - 1950", "1900- 1950", "1900 -", "1900-?", "b.1900-", "ca. 1900-", "1900-1950 BC",
		"\u0661\u0669\u0660\u0660-", "1900-\u0661\u0669\u0660\u0660", "190\u0660-", "\uff11\uff19\uff10\uff10-", "MCMX-", "abcd-", "/000-", ":000-", "000/-", "999:-", "1-", "12-", "1900-1", "1900-19", "19-00", "1900-1950-2000", "1900-1950-2000-",
	} {
		wantName(t, "a, "+s, api.Name{Last: "a", First: s}, api.OK)
		wantName(t, "a, b, "+s, api.Name{}, api.ErrForm)
		wantName(t, "a, "+s+", 1900-", api.Name{Last: "a", First: s, Dates: "1900-"}, api.OK)
		wantName(t, s, api.Name{Last: s}, api.OK)
		wantText(t, api.Name{Last: "a", Dates: s}, "", api.ErrForm)
		wantText(t, api.Name{Last: "a", First: "b", Dates: s}, "", api.ErrForm)
	}
}

// P12.5: every byte at every place of dates, left out, replaced, added.
func TestDatesBytes(t *testing.T) {
	for _, s := range []string{"1900-", "1900-1950"} {
		for i := range len(s) + 1 {
			for c := range 256 {
				b := string([]byte{byte(c)})
				checkName(t, "a, "+s[:i]+b+s[i:])
				checkName(t, "a, b, "+s[:i]+b+s[i:])
				if i < len(s) {
					checkName(t, "a, "+s[:i]+b+s[i+1:])
					checkName(t, "a, b, "+s[:i]+b+s[i+1:])
					checkText(t, api.Name{Last: "a", First: "b", Dates: s[:i] + b + s[i+1:]})
				}
			}
			if i < len(s) {
				checkName(t, "a, "+s[:i]+s[i+1:])
				checkName(t, "a, b, "+s[:i]+s[i+1:])
			}
		}
	}
}

// P12.5: all years as one and as both of the dates.
func TestYears(t *testing.T) {
	for year := range 10000 {
		from, both := fmt.Sprintf("%04d-", year), fmt.Sprintf("%04d-%04d", 9999-year, year)
		wantName(t, "a, "+from, api.Name{Last: "a", Dates: from}, api.OK)
		wantName(t, "a, b, "+both, api.Name{Last: "a", First: "b", Dates: both}, api.OK)
	}
}

// P12.5, P12.7: all short sequences of letters, commas, blanks and dates against the description.
func TestShortNames(t *testing.T) {
	check := func(s string) { checkName(t, s) }
	eachSequence([]string{"a", ",", " "}, 9, check)
	eachSequence([]string{"a", ", ", "1900-", "1900-1950", " ", ",", "\u00a0", "\u00e9"}, 5, check)
	eachSequence([]string{"a", ", ", "1900-"}, 8, check)
	eachSequence([]string{"1", "-"}, 9, func(s string) {
		checkName(t, "a, "+s)
		checkName(t, "a, b, "+s)
	})
}

// P12.5, P12.6: each character in each of the pieces.
func TestNameCharacters(t *testing.T) {
	for r := rune(0); r <= 0x10100; r++ {
		c := string(r)
		for _, s := range []string{c, "x" + c + "y, b", "a, " + c + "y", "a, x" + c + ", 1900-", "a, b, 190" + c + "-"} {
			checkName(t, s)
		}
		checkText(t, api.Name{Last: "x" + c, First: c + "y"})
	}
}

// P12.6: names with all choices of parts, against the description.
func TestText(t *testing.T) {
	pool := []string{"", "a", "van Berg", "b-c", "-", "1900-", "1900-1950", "1900", "190-", "19000-", ",", ", ", "a,", ",a", "a,b", "a, b", "a, 1900-", ", a", "a, ", "a, b, c", " ", "\u00a0", " a", "a ", "a  b", "a\u00a0b", " 1900-", "1900- ", "\n", "\xff", "\u00e9", "\U0001f600"}
	for _, last := range pool {
		for _, first := range pool {
			for _, dates := range pool {
				checkText(t, api.Name{Last: last, First: first, Dates: dates})
			}
		}
	}
	wantText(t, api.Name{}, "", api.ErrForm)
	wantText(t, api.Name{Last: "Plato"}, "Plato", api.OK)
	wantText(t, api.Name{First: "Plato"}, "", api.ErrForm)
	wantText(t, api.Name{Dates: "1900-"}, "", api.ErrForm)
	wantText(t, api.Name{First: "a", Dates: "1900-"}, "", api.ErrForm)
	wantText(t, api.Name{Last: "a", First: "b", Dates: "1900-"}, "a, b, 1900-", api.OK)
	wantText(t, api.Name{Last: "a", Dates: "1900-"}, "a, 1900-", api.OK)
	wantText(t, api.Name{Last: "a", First: "b"}, "a, b", api.OK)
	wantText(t, api.Name{Last: "a", First: "1900-"}, "", api.ErrForm)
	wantText(t, api.Name{Last: "a", First: "1900-", Dates: "1900-"}, "a, 1900-, 1900-", api.OK)
	wantText(t, api.Name{Last: "a", Dates: "b"}, "", api.ErrForm)
	wantText(t, api.Name{Last: "a", First: "b", Dates: "1900"}, "", api.ErrForm)
	wantText(t, api.Name{Last: "a, b"}, "", api.ErrForm)
	wantText(t, api.Name{Last: "a", First: "b, 1900-"}, "", api.ErrForm)
}

// P12.5 to P12.7: random texts and names.
func TestRandomNames(t *testing.T) {
	r := rand.New(rand.NewSource(7))
	units := []string{"a", "Berg", " ", "-", "\u00e9", "1900-", "1950", "\u65e5"}
	for range 100000 {
		var pieces []string
		for range r.Intn(5) {
			pieces = append(pieces, random(r, units, 5))
		}
		checkName(t, strings.Join(pieces, ", "))
		checkText(t, api.Name{Last: random(r, units, 4), First: random(r, units, 4), Dates: []string{"", "1900-", "1900-1950", random(r, units, 3)}[r.Intn(4)]})
	}
}
