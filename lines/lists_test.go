package lines

import (
	"fmt"
	"math/rand"
	"slices"
	"strings"
	"testing"

	"library/api"
)

// wantPrintAll compares PrintAll with what it must return, and checks that the records stay as they were.
func wantPrintAll(t *testing.T, l []api.Record, want string, wantErr api.Errno) {
	t.Helper()
	given := roomyList(l)
	same := keeper(given...)
	got, err := PrintAll(given)
	if got != want || err != wantErr {
		t.Errorf("PrintAll of %d records is %d bytes %q, error %d, not %d bytes %q, error %d", len(l), len(got), short(got), int(err), len(want), short(want), int(wantErr))
	}
	if !same() {
		t.Errorf("PrintAll changes what it was given, %d records", len(l))
	}
}

// wantParseAll compares ParseAll with what it must return, and what P11.6 says of its records.
func wantParseAll(t *testing.T, s string, want []api.Record, wantLine int, wantErr api.Errno) {
	t.Helper()
	got, line, err := ParseAll(s)
	if err != wantErr || line != wantLine || !slices.EqualFunc(got, want, equal) {
		t.Errorf("ParseAll of %q is %d records, %d, error %d, not %d records, %d, error %d", short(s), len(got), line, int(err), len(want), wantLine, int(wantErr))
	}
	if err != api.OK {
		return
	}
	if again, err := PrintAll(got); again != s || err != api.OK {
		t.Errorf("PrintAll of what ParseAll returns is %q, error %d, not %q", short(again), int(err), short(s))
	}
}

// wantParsedAll compares ParseAll with the definition.
func wantParsedAll(t *testing.T, s string) {
	t.Helper()
	l, line, err := parseAllOf(s)
	wantParseAll(t, s, l, line, err)
}

// wantTexts checks that PrintAll returns the lines of valid records, and ParseAll the records.
func wantTexts(t *testing.T, l []api.Record) {
	t.Helper()
	wantPrintAll(t, l, textsOf(l), api.OK)
	wantParseAll(t, textsOf(l), l, 0, api.OK)
}

// textsOf returns the lines of records.
func textsOf(l []api.Record) string {
	s := ""
	for _, r := range l {
		s += textOf(r)
	}
	return s
}

// many returns n records, each of which tells by its ID which one it is.
func many(n int) []api.Record {
	var list []api.Record
	for i := range n {
		r := book(times(i % 3)...)
		r.ID = i
		list = append(list, r)
	}
	return list
}

// filled returns records whose lines have n bytes in all, for n from 26 on.
func filled(n int) []api.Record {
	var list []api.Record
	for n > 0 {
		r := book()
		n -= len(bareText)
		for n > 0 && len(r.Fields) < 64 {
			// A line has 10 bytes besides its value; what is left is nothing, or enough for a record with a field.
			size := min(n, 210)
			if rest := n - size; rest > 0 && rest < 26 {
				size -= 26
			}
			r.Fields = append(r.Fields, with("500", sub('a', strings.Repeat("x", size-10))))
			n -= size
		}
		list = append(list, r)
	}
	return list
}

// replaced returns records of which one is another one.
func replaced(l []api.Record, at int, r api.Record) []api.Record {
	l = slices.Clone(l)
	l[at] = r
	return l
}

// P11.3, P11.4: no records, one, and many of them.
func TestLists(t *testing.T) {
	wantTexts(t, nil)
	wantTexts(t, []api.Record{})
	wantPrintAll(t, []api.Record{dogs()}, dogsText, api.OK)
	wantPrintAll(t, []api.Record{dogs(), book(), dogs()}, dogsText+bareText+dogsText, api.OK)
	wantParseAll(t, "", nil, 0, api.OK)
	wantParseAll(t, dogsText+bareText+dogsText, []api.Record{dogs(), book(), dogs()}, 0, api.OK)
	for n := range 65 {
		wantTexts(t, many(n))
		wantTexts(t, slices.Repeat([]api.Record{book()}, n))
	}
	for n := 65; n < 200; n++ {
		wantPrintAll(t, many(n), "", api.ErrFull)
		wantParseAll(t, textsOf(many(n)), nil, strings.Count(textsOf(many(64)), "\n")+1, api.ErrFull)
	}
	for _, r := range someRecords() {
		if len(textOf(r)) < 30000 {
			wantTexts(t, []api.Record{r})
			wantTexts(t, []api.Record{dogs(), r, r, book()})
		}
	}
}

// P11.3: each mistake in the first, a middle and the last record, and two in two records; with more than MaxRecords records none of them counts.
func TestPrintAllWrong(t *testing.T) {
	for _, n := range []int{1, 2, 3, 63, 64, 65, 100} {
		for _, at := range []int{0, n / 2, n - 1} {
			for mistake := range wrongRecords {
				wrong, want := broken(mistake)
				if n > 64 {
					want = api.ErrFull
				}
				wantPrintAll(t, replaced(many(n), at, wrong), "", want)
			}
		}
	}
	for first := range wrongRecords {
		for second := range wrongRecords {
			one, want := broken(first)
			other, _ := broken(second)
			for _, at := range [][2]int{{0, 1}, {1, 2}, {0, 3}, {2, 3}} {
				wantPrintAll(t, replaced(replaced(many(4), at[0], one), at[1], other), "", want)
			}
		}
	}
}

// P11.3, P11.4: the greatest number of bytes, and more of them; a wrong record counts before the length, a wrong line behind it.
func TestListsLong(t *testing.T) {
	for n := 65480; n <= 65580; n++ {
		l := filled(n)
		s := textsOf(l)
		if len(s) != n {
			t.Fatalf("the records have %d bytes, not %d", len(s), n)
		}
		if n <= 65536 {
			wantTexts(t, l)
			continue
		}
		wantPrintAll(t, l, "", api.ErrLong)
		wantParseAll(t, s, nil, 0, api.ErrLong)
		wantParseAll(t, "x"+s[1:], nil, 0, api.ErrLong)
		wantParseAll(t, s[:n-1]+"x", nil, 0, api.ErrLong)
		wantParseAll(t, strings.Repeat("\n", n), nil, 0, api.ErrLong)
		for mistake := range wrongRecords {
			wrong, err := broken(mistake)
			wantPrintAll(t, append(slices.Clone(l), wrong), "", err)
			wantPrintAll(t, slices.Insert(slices.Clone(l), 0, wrong), "", err)
		}
	}
	// 64 records of 1024 bytes are the longest text, too.
	l := slices.Repeat(filled(1024), 64)
	wantTexts(t, l)
	wantPrintAll(t, append(l, book()), "", api.ErrFull)
	wantParseAll(t, textsOf(l)+bareText, nil, 0, api.ErrLong)
	for _, i := range []int{0, 31, 63} {
		wantTexts(t, replaced(l, i, filled(1023)[0]))
		wantPrintAll(t, replaced(l, i, filled(1025)[0]), "", api.ErrLong)
		wantParseAll(t, textsOf(replaced(l, i, filled(1025)[0])), nil, 0, api.ErrLong)
	}
}

// P11.3, P11.4: the limit of bytes is that of bytes, not of characters, and there is none for Print and Parse.
func TestListsBytes(t *testing.T) {
	r := book(slices.Repeat([]api.Field{with("245", slices.Repeat([]api.Sub{sub('a', strings.Repeat("é", 100))}, 16)...)}, 20)...)
	if s := textOf(r); len(s) < 64000 || len(s) > 65536 {
		t.Fatalf("the record has %d bytes", len(s))
	}
	wantTexts(t, []api.Record{r})
	r.Fields = append(r.Fields, r.Fields[0])
	wantText(t, r)
	wantPrintAll(t, []api.Record{r}, "", api.ErrLong)
	wantParseAll(t, textOf(r), nil, 0, api.ErrLong)
	r = book(slices.Repeat([]api.Field{with("245", most()...)}, 64)...)
	wantText(t, r)
	wantPrintAll(t, []api.Record{r}, "", api.ErrLong)
	wantPrintAll(t, slices.Repeat([]api.Record{r}, 20), "", api.ErrLong)
	wantParseAll(t, textOf(r), nil, 0, api.ErrLong)
}

// P11.4: a text of exactly 65536 bytes with a wrong line at its end, and behind records.
func TestParseAllLongWrong(t *testing.T) {
	for _, n := range []int{65535, 65536} {
		s := textsOf(filled(n))
		lines := strings.Count(s, "\n")
		wantParseAll(t, s[:n-1], nil, lines, api.ErrForm)
		wantParseAll(t, s[:n-1]+"x", nil, lines, api.ErrForm)
		wantParseAll(t, s[:n-2]+"x\n", nil, lines, api.ErrForm)
		wantParseAll(t, "x"+s[1:], nil, 1, api.ErrForm)
		wantParsedAll(t, strings.Replace(s, "500 #0", "500 #x", 1))
		last := strings.LastIndex(s, "500 #0")
		wantParseAll(t, s[:last]+"5x"+s[last+2:], nil, strings.Count(s[:last], "\n")+1, api.ErrForm)
	}
}

// P11.4: MaxRecords records, and what can stand behind them.
func TestParseAllFull(t *testing.T) {
	for _, l := range [][]api.Record{many(64), slices.Repeat([]api.Record{book()}, 64), slices.Repeat([]api.Record{dogs()}, 64)} {
		s := textsOf(l)
		at := strings.Count(s, "\n") + 1
		wantParseAll(t, s, l, 0, api.OK)
		wantParseAll(t, s[:len(s)-1], nil, at-1, api.ErrForm)
		for _, x := range append(append(badLines(), goodLines()...), "", "=1 3 book eng", "=01 3 book eng", dogsText, bareText, "\n", "\n\n") {
			if x != "" {
				wantParseAll(t, s+x, nil, at, api.ErrFull)
			}
			wantParseAll(t, s+x+"\n", nil, at, api.ErrFull)
			wantParseAll(t, s+x+"\nx\n\n", nil, at, api.ErrFull)
		}
		for c := range 256 {
			wantParseAll(t, s+string([]byte{byte(c)}), nil, at, api.ErrFull)
		}
		// A wrong line before counts first.
		wantParseAll(t, "x"+s[1:]+dogsText, nil, 1, api.ErrForm)
		wantParsedAll(t, s[:len(s)-2]+"x\n\n"+dogsText)
		wantParsedAll(t, s[:len(s)-1]+dogsText)
	}
}

// P11.4: lines that are wrong at each place of the first, a middle and the last record; they are counted from the beginning of the text.
func TestParseAllWrong(t *testing.T) {
	for _, n := range []int{1, 2, 3, 5, 63, 64, 65} {
		list := strings.Split(strings.TrimSuffix(textsOf(many(n)), "\n"), "\n")
		limit := strings.Count(textsOf(many(min(n, 64))), "\n")
		for i, line := range list {
			if n > 5 && i > 10 && i < limit-10 && i%17 > 0 {
				continue
			}
			for _, x := range []string{"x", "=1 4 book eng", "=01 3 book eng", "245 10 $a", " ", "245 10 $aDogs", "=1 3 book eng", ""} {
				wantParsedAll(t, joined(replacedLine(list, i, x)...))
				wantParsedAll(t, joined(slices.Insert(slices.Clone(list), i, x)...))
				wantParsedAll(t, joined(list[:i]...)+x)
			}
			want := i + 1
			err := api.ErrForm
			if i >= limit {
				want, err = limit+1, api.ErrFull
			}
			wantParseAll(t, joined(replacedLine(list, i, "x")...), nil, want, err)
			wantParseAll(t, joined(replacedLine(replacedLine(list, i, "x"), len(list)-1, "x")...), nil, want, err)
			if line != "" {
				wantParseAll(t, joined(list[:i]...)+line, nil, want, err)
			}
		}
	}
}

// replacedLine returns lines of which one is another one.
func replacedLine(list []string, at int, line string) []string {
	list = slices.Clone(list)
	list[at] = line
	return list
}

// P11.4: a record with too many fields at each place; the number counts from the beginning of the text.
func TestParseAllFields(t *testing.T) {
	long := "=1 3 book eng\n" + joined(repeated("245 10 $aDogs", 65)...) + "\n"
	full := "=1 3 book eng\n" + joined(repeated("245 10 $aDogs", 64)...) + "\n"
	for n := range 20 {
		before := textsOf(many(n))
		wantParseAll(t, before+long+dogsText, nil, strings.Count(before, "\n")+66, api.ErrLong)
		wantParsedAll(t, before+full+dogsText)
		wantParseAll(t, before+full+"x", nil, strings.Count(before, "\n")+67, api.ErrForm)
		wantParseAll(t, before+full+full+long, nil, strings.Count(before, "\n")+66+66+66, api.ErrLong)
	}
	if len(textsOf(many(64))+long) > 65536 {
		t.Fatal("the text is too long")
	}
	wantParseAll(t, textsOf(many(64))+long, nil, strings.Count(textsOf(many(64)), "\n")+1, api.ErrFull)
}

// P11.4: texts that are cut at every place, and texts with one byte changed, left out or put in.
func TestParseAllChanged(t *testing.T) {
	s := textsOf(append(fewRecords()[:4], dogs(), book()))
	for i := range len(s) {
		wantParsedAll(t, s[:i])
		wantParsedAll(t, s[i:])
		wantParsedAll(t, s[:i]+s[i+1:])
		for c := range 256 {
			x := string([]byte{byte(c)})
			wantParsedAll(t, s[:i]+x+s[i+1:])
			wantParsedAll(t, s[:i]+x+s[i:])
		}
	}
	long := textsOf(many(64))
	for i := range len(long) {
		wantParsedAll(t, long[:i])
		if i%7 == 0 {
			wantParsedAll(t, long[:i]+"\n"+long[i:])
			wantParsedAll(t, long[:i]+"x"+long[i+1:])
		}
	}
}

// P11.4: texts of line feeds alone, without any, and all sequences of a few lines.
func TestParseAllSequences(t *testing.T) {
	for n := 1; n < 300; n++ {
		wantParseAll(t, strings.Repeat("\n", n), nil, 1, api.ErrForm)
		wantParseAll(t, strings.Repeat("x", n), nil, 1, api.ErrForm)
		wantParseAll(t, dogsText+strings.Repeat("\n", n), nil, 4, api.ErrForm)
		wantParseAll(t, dogsText+strings.Repeat("x", n), nil, 4, api.ErrForm)
	}
	parts := []string{"", "=1 3 book eng", "245 10 $aDogs", "x", "=2 1 map fra"}
	sequences := []string{""}
	for range 6 {
		var longer []string
		for _, s := range sequences {
			wantParsedAll(t, s)
			for _, part := range parts {
				wantParsedAll(t, s+part)
				longer = append(longer, s+part+"\n")
			}
		}
		sequences = longer
	}
}

// P11.4: many texts of records, some of which are changed.
func TestParseAllRandom(t *testing.T) {
	random := rand.New(rand.NewSource(114))
	const chars = "0159azA \n\n\n=$$#@"
	for i := range 3000 {
		var l []api.Record
		for range 1 + random.Intn(6) {
			l = append(l, randomRecord(random, 3, 10))
		}
		wantTexts(t, l)
		b := []byte(textsOf(l))
		for range 1 + i%3 {
			b[random.Intn(len(b))] = chars[random.Intn(len(chars))]
		}
		wantParsedAll(t, string(b))
	}
}

// P11.3, P11.4: a wrong text leaves nothing for the next call, and what was returned belongs to the caller.
func TestListsKept(t *testing.T) {
	want := many(10)
	s := textsOf(want)
	given := roomyList(want)
	text, _ := PrintAll(given)
	for _, r := range given {
		spoil(r)
	}
	clear(given[:cap(given)])
	if text != s {
		t.Error("a change of the records changes their lines")
	}
	first, _, _ := ParseAll(s)
	wantParsedAll(t, s+"x")
	wantParsedAll(t, s[:len(s)-1])
	second, _, _ := ParseAll(s)
	if !slices.EqualFunc(first, want, equal) || !slices.EqualFunc(second, want, equal) {
		t.Error("ParseAll a second time returns other records")
	}
	for _, r := range first {
		spoil(r)
	}
	clear(first[:cap(first)])
	if !slices.EqualFunc(second, want, equal) {
		t.Error("two lists that ParseAll returned share their memory")
	}
	for i := range second {
		for j := range second[i].Fields {
			_ = append(second[i].Fields[j].Subs, sub('!', "!"))
		}
		_ = append(second[i].Fields, with("999", sub('!', fmt.Sprint(i))))
	}
	if !slices.EqualFunc(second, want, equal) {
		t.Error("the records of one list share their memory")
	}
	wantParseAll(t, s, want, 0, api.OK)
}
