package record

import (
	"fmt"
	"math/rand"
	"regexp"
	"slices"
	"strconv"
	"strings"
	"testing"

	"library/api"
)

// readings are what the document says of the title, the author, the year and the subjects of a record.
type readings struct {
	title, author string
	year          int
	subjects      []string
}

// codes are all codes that subfields can have.
const codes = "0123456789abcdefghijklmnopqrstuvwxyz"

// The shapes that the document describes.
var (
	blanks = regexp.MustCompile(`[ \x{a0}]+`)
	runs   = regexp.MustCompile(`[0-9]+`)
)

// valuesOf returns the values of codes of a field.
func valuesOf(f api.Field, wanted string) []string {
	list := []string{}
	for _, s := range f.Subs {
		for _, c := range []byte(wanted) {
			if s.Code == c {
				list = append(list, s.Value)
			}
		}
	}
	return list
}

// titleOf returns the title as the document describes it.
func titleOf(r api.Record) string {
	for _, f := range r.Fields {
		if f.Tag == "245" {
			return strings.Trim(blanks.ReplaceAllString(strings.Join(valuesOf(f, "ab"), " "), " "), " ")
		}
	}
	return ""
}

// authorOf returns the author as the document describes it.
func authorOf(r api.Record) string {
	seen := map[string]bool{}
	names := map[string]string{}
	for _, f := range r.Fields {
		if list := valuesOf(f, "a"); !seen[f.Tag] && len(list) > 0 {
			names[f.Tag] = list[0]
		}
		seen[f.Tag] = true
	}
	for _, tag := range []string{"100", "110", "700"} {
		// A value is never empty.
		if names[tag] != "" {
			return names[tag]
		}
	}
	return ""
}

// yearOf returns the year as the document describes it.
func yearOf(r api.Record) int {
	for _, f := range r.Fields {
		if f.Tag != "260" && f.Tag != "264" {
			continue
		}
		for _, value := range valuesOf(f, "c") {
			for _, run := range runs.FindAllString(value, -1) {
				n, _ := strconv.Atoi(run)
				if len(run) == 4 && n >= 1000 && n <= 2199 {
					return n
				}
			}
		}
	}
	return 0
}

// subjectsOf returns the subjects as the document describes them.
func subjectsOf(r api.Record) []string {
	list := []string{}
	for _, f := range r.Fields {
		if values := valuesOf(f, "axyz"); f.Tag[0] == '6' && len(values) > 0 {
			list = append(list, strings.Join(values, "--"))
		}
	}
	return list
}

// wantReadings compares what is read of a record with what must be read.
func wantReadings(t *testing.T, r api.Record, want readings) {
	t.Helper()
	if got := Title(r); got != want.title {
		t.Errorf("Title is %q, not %q: %s", got, want.title, short(shown(r)))
	}
	if got := Author(r); got != want.author {
		t.Errorf("Author is %q, not %q: %s", got, want.author, short(shown(r)))
	}
	if got := Year(r); got != want.year {
		t.Errorf("Year is %d, not %d: %s", got, want.year, short(shown(r)))
	}
	if got := Subjects(r); !slices.Equal(got, want.subjects) {
		t.Errorf("Subjects is %q, not %q: %s", got, want.subjects, short(shown(r)))
	}
}

// P8.6: what is read of many records, which are valid.
func TestReadings(t *testing.T) {
	for _, r := range someRecords() {
		wantReadings(t, r, readings{titleOf(r), authorOf(r), yearOf(r), subjectsOf(r)})
	}
	wantReadings(t, book(), readings{})
	wantReadings(t, api.Record{}, readings{})
}

// P8.6: short records of a few fields with a few subfields, in every order.
func TestReadingsShort(t *testing.T) {
	random := rand.New(rand.NewSource(86))
	tags := []string{"100", "110", "245", "260", "264", "650", "700"}
	for range 20000 {
		r := book()
		for range 1 + random.Intn(5) {
			f := with(tags[random.Intn(len(tags))])
			for range 1 + random.Intn(4) {
				f.Subs = append(f.Subs, sub("abcx"[random.Intn(4)], []string{"1998", "2001, 1999", "12345", "999", " x ", "y\u00a0 z"}[random.Intn(6)]))
			}
			r.Fields = append(r.Fields, f)
		}
		wantReadings(t, r, readings{titleOf(r), authorOf(r), yearOf(r), subjectsOf(r)})
	}
}

// P8.6: a field of each tag, alone, with values of many codes.
func TestReadingsTags(t *testing.T) {
	for n := 10; n < 1000; n++ {
		f := with(fmt.Sprintf("%03d", n))
		for _, c := range []byte("0169abcdehnvwxyz") {
			value := "v" + string([]byte{c})
			if c == 'c' {
				value = "1998"
			}
			f.Subs = append(f.Subs, sub(c, value))
		}
		var want readings
		switch {
		case n == 245:
			want.title = "va vb"
		case n == 100 || n == 110 || n == 700:
			want.author = "va"
		case n == 260 || n == 264:
			want.year = 1998
		case 600 <= n && n <= 699:
			want.subjects = []string{"va--vx--vy--vz"}
		}
		wantRight(t, book(f), api.OK)
		wantReadings(t, book(f), want)
	}
}

// P8.6: a single subfield of each code in a field of each tag that is read.
func TestReadingsCodes(t *testing.T) {
	for _, c := range []byte(codes) {
		is := func(list string) bool { return strings.Contains(list, string([]byte{c})) }
		for _, tag := range []string{"245", "100", "110", "700", "260", "264", "600", "650", "699", "599"} {
			r := book(with(tag, sub(c, "1998")))
			wantRight(t, r, api.OK)
			var want readings
			switch {
			case tag == "245" && is("ab"):
				want.title = "1998"
			case (tag == "100" || tag == "110" || tag == "700") && is("a"):
				want.author = "1998"
			case (tag == "260" || tag == "264") && is("c"):
				want.year = 1998
			case tag[0] == '6' && is("axyz"):
				want.subjects = []string{"1998"}
			}
			wantReadings(t, r, want)
		}
	}
}

// P8.6: titles with blanks, without a and b, in another order, and several fields 245.
func TestTitle(t *testing.T) {
	for _, x := range []struct {
		fields []api.Field
		want   string
	}{
		{[]api.Field{with("245", sub('a', "Dogs"))}, "Dogs"},
		{[]api.Field{with("245", sub('b', "a guide"))}, "a guide"},
		{[]api.Field{with("245", sub('a', "Dogs"), sub('b', "a guide"))}, "Dogs a guide"},
		{[]api.Field{with("245", sub('b', "a guide"), sub('a', "Dogs"))}, "a guide Dogs"},
		{[]api.Field{with("245", sub('b', "1"), sub('a', "2"), sub('b', "3"), sub('a', "4"), sub('a', "5"))}, "1 2 3 4 5"},
		{[]api.Field{with("245", sub('c', "1"), sub('a', "2"), sub('n', "3"), sub('b', "4"), sub('h', "5"))}, "2 4"},
		{[]api.Field{with("245", sub('c', "by Ann"))}, ""},
		{[]api.Field{with("245", sub('c', "by Ann"), sub('n', "1"), sub('9', "a"))}, ""},
		{[]api.Field{with("245", sub('a', "  Dogs \u00a0 and  cats  "))}, "Dogs and cats"},
		{[]api.Field{with("245", sub('a', "Dogs  "), sub('b', "  a guide "))}, "Dogs a guide"},
		{[]api.Field{with("245", sub('a', "\u00a0Dogs\u00a0"), sub('b', "\u00a0"), sub('a', "x"))}, "Dogs x"},
		{[]api.Field{with("245", sub('a', " "))}, ""},
		{[]api.Field{with("245", sub('a', " "), sub('b', " \u00a0 "))}, ""},
		{[]api.Field{with("245", sub('a', " "), sub('b', "x"))}, "x"},
		{[]api.Field{with("245", sub('a', "x"), sub('b', " "))}, "x"},
		{[]api.Field{with("245", sub('a', "The \u00c9t\u00e9: $5 / \"x\"\u2003y"))}, "The \u00c9t\u00e9: $5 / \"x\"\u2003y"},
		{[]api.Field{with("245", sub('a', "first")), with("245", sub('a', "second"))}, "first"},
		{[]api.Field{with("245", sub('c', "first")), with("245", sub('a', "second"))}, ""},
		{[]api.Field{with("245", sub('a', " ")), with("245", sub('a', "second"))}, ""},
		{[]api.Field{with("246", sub('a', "other")), with("245", sub('a', "x")), with("244", sub('a', "other"))}, "x"},
		{[]api.Field{with("100", sub('a', "Smith")), with("650", sub('a', "Dogs")), with("245", sub('b', "last"))}, "last"},
		{[]api.Field{with("246", sub('a', "other")), with("240", sub('a', "other"))}, ""},
		{nil, ""},
	} {
		r := book(x.fields...)
		wantRight(t, r, api.OK)
		if got := Title(r); got != x.want {
			t.Errorf("Title is %q, not %q: %s", got, x.want, shown(r))
		}
	}
}

// P8.6: titles as long as subfields allow.
func TestTitleLong(t *testing.T) {
	value := strings.Repeat("x", 200)
	r := book(with("245", slices.Repeat([]api.Sub{sub('a', value)}, 16)...))
	wantRight(t, r, api.OK)
	if got := Title(r); got != strings.Repeat(value+" ", 15)+value {
		t.Errorf("Title has %d bytes", len(got))
	}
	r = book(with("245", slices.Repeat([]api.Sub{sub('a', strings.Repeat(" ", 199)+"x")}, 16)...))
	if got := Title(r); got != strings.Repeat("x ", 15)+"x" {
		t.Errorf("Title is %q", got)
	}
}

// P8.6: each choice of fields 100, 110 and 700, without and with values of a, in every order of the tags.
func TestAuthor(t *testing.T) {
	kinds := func(tag string) []struct {
		fields []api.Field
		want   string
	} {
		a, b := sub('a', tag+" a"), sub('a', tag+" second a")
		none := with(tag, sub('b', "no a"), sub('d', "no a"))
		return []struct {
			fields []api.Field
			want   string
		}{
			{nil, ""}, {[]api.Field{none}, ""}, {[]api.Field{with(tag, a)}, tag + " a"}, {[]api.Field{none, with(tag, a)}, ""}, {[]api.Field{with(tag, a), none}, tag + " a"},
			{[]api.Field{with(tag, a, b)}, tag + " a"}, {[]api.Field{with(tag, b, a)}, tag + " second a"}, {[]api.Field{with(tag, a), with(tag, b)}, tag + " a"},
			{[]api.Field{with(tag, sub('b', "x"), a, sub('c', "y"))}, tag + " a"}, {[]api.Field{none, none, with(tag, b)}, ""},
		}
	}
	for _, a := range kinds("100") {
		for _, b := range kinds("110") {
			for _, c := range kinds("700") {
				want := a.want
				if want == "" {
					want = b.want
				}
				if want == "" {
					want = c.want
				}
				title := []api.Field{with("245", sub('a', "Dogs"))}
				for _, order := range [][][]api.Field{
					{a.fields, b.fields, c.fields}, {a.fields, c.fields, b.fields}, {b.fields, a.fields, c.fields},
					{b.fields, c.fields, a.fields}, {c.fields, a.fields, b.fields}, {c.fields, b.fields, title, a.fields},
				} {
					r := book(slices.Concat(order...)...)
					if got := Author(r); got != want {
						t.Errorf("Author is %q, not %q: %s", got, want, shown(r))
					}
				}
			}
		}
	}
}

// P8.6: authors are values as they stand in the record; fields with other tags have none.
func TestAuthorValues(t *testing.T) {
	for _, name := range []string{"Smith, Ann", "  Smith,  Ann ", " ", "\u00a0", "$", "\u00c9mile", "x", strings.Repeat("x", 200)} {
		for _, tag := range []string{"100", "110", "700"} {
			if got := Author(book(with("245", sub('a', "Dogs")), with(tag, sub('a', name), sub('d', "1950-")))); got != name {
				t.Errorf("Author is %q, not %q", got, name)
			}
		}
	}
	// A blank is a value: no other field is looked at.
	if got := Author(book(with("110", sub('a', "Body")), with("100", sub('a', " ")))); got != " " {
		t.Errorf("Author is %q, not a blank", got)
	}
	for _, tag := range []string{"101", "111", "130", "710", "711", "730", "010", "070", "170", "600", "245"} {
		if got := Author(book(with(tag, sub('a', "nobody")))); got != "" {
			t.Errorf("Author is %q of a field %s", got, tag)
		}
	}
}
