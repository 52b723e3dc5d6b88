package lines

import (
	"fmt"
	"math/rand"
	"slices"
	"strings"
	"testing"

	"library/api"
)

// wantParse compares Parse with what it must return, and what P11.5 says of its record.
func wantParse(t *testing.T, s string, want api.Record, wantLine int, wantErr api.Errno) {
	t.Helper()
	got, line, err := Parse(s)
	if err != wantErr || line != wantLine || !equal(got, want) {
		t.Errorf("Parse of %q is %s, %d, error %d, not %s, %d, error %d", short(s), shown(got), line, int(err), shown(want), wantLine, int(wantErr))
	}
	if err != api.OK {
		return
	}
	if again, err := Print(got); again != s || err != api.OK {
		t.Errorf("Print of what Parse returns is %q, error %d, not %q", short(again), int(err), short(s))
	}
}

// wantParsed compares Parse with the definition.
func wantParsed(t *testing.T, s string) {
	t.Helper()
	r, line, err := parseOf(s)
	wantParse(t, s, r, line, err)
}

// badLines are lines that no field has.
func badLines() []string {
	return []string{
		"x", " ", "\t", "\r", "\x00", "\xff", "\u00a0", "\ufeff", "=", "=1 3 book eng", "$", "$aDogs", "245", "245 ", "245 10", "245 10 ", "245 10 $", "245 10 $a", "245 10 $aDogs$", "245 10 $aDogs$b", "245 10 $aDogs$b$cx",
		"009 10 $aDogs", "000 10 $aDogs", "24 10 $aDogs", "2450 10 $aDogs", "24x 10 $aDogs", " 245 10 $aDogs", "245  10 $aDogs", "245 10  $aDogs", "245 1 $aDogs", "245 100 $aDogs", "245 1a $aDogs", "245 1  $aDogs", "245 10 Dogs", "245 10 x$aDogs",
		"245 10 $ADogs", "245 10 $ Dogs", "245@ 10 $aDogs", "245@0 10 $aDogs", "245@03 10 $aDogs", "245@+3 10 $aDogs", "245@-3 10 $aDogs", "245@10000 10 $aDogs", "245@18446744073709551619 10 $aDogs", "245@3@3 10 $aDogs", "245 @3 10 $aDogs",
		"245 10 $aDogs\r", "245 10 $aDo\x7fgs", "245 10 $a\xed\xa0\x80", "245 10 $a\U00010000", "245 10 $a$$$", "245 10 $aé\x80", "245 10 " + strings.Repeat("$ax", 17), "245 10 $a" + strings.Repeat("x", 201), "245 10 $a" + strings.Repeat("$", 402),
	}
}

// goodLines are lines of fields.
func goodLines() []string {
	return []string{"245 10 $aDogs", "650@3 #0 $aDogs", "010 ## $9$$", "999@9999 99 $a $z$$$$=@#", "100 1# " + strings.Repeat("$ax", 16), "500 ## $a" + strings.Repeat("$", 400)}
}

// joined returns a text of lines, all of which are ended.
func joined(list ...string) string {
	s := ""
	for _, line := range list {
		s += line + "\n"
	}
	return s
}

// repeated returns n lines.
func repeated(line string, n int) []string { return slices.Repeat([]string{line}, n) }

// P11.2: texts without any line feed, texts of line feeds alone, and the empty text.
func TestParseFeeds(t *testing.T) {
	for n := range 300 {
		wantParse(t, strings.Repeat("\n", n), api.Record{}, 1, api.ErrForm)
	}
	for _, s := range []string{"", "=", "=1", "=1 3 book eng", "245 10 $aDogs", "x", " ", "\r", "\r\r", "\x00", "\xff", "=1 3 book eng\r\r", "=1 3 book eng  "} {
		wantParse(t, s, api.Record{}, 1, api.ErrForm)
		wantParse(t, "\n"+s, api.Record{}, 1, api.ErrForm)
		wantParse(t, "\n"+bareText+s, api.Record{}, 1, api.ErrForm)
	}
	wantParse(t, "=1 3 book eng\r\n\r\n", api.Record{}, 1, api.ErrForm)
	wantParse(t, "=1 3 book eng\n\r\n", api.Record{}, 2, api.ErrForm)
	wantParse(t, "=1 3 book eng\n", api.Record{}, 2, api.ErrForm)
	wantParse(t, "=1 3 book eng\n\n", book(), 0, api.OK)
	wantParse(t, "=1 3 book eng\n\n\n", api.Record{}, 3, api.ErrForm)
	wantParse(t, "=1 3 book eng\n\n\n\n", api.Record{}, 3, api.ErrForm)
}

// P11.2: what stands behind the first empty line.
func TestParseBehind(t *testing.T) {
	for _, r := range someRecords() {
		s := textOf(r)
		at := strings.Count(s, "\n") + 1
		for c := 0; c < 256; c += 1 + len(s)/5000 {
			wantParse(t, s+string([]byte{byte(c)}), api.Record{}, at, api.ErrForm)
		}
		for _, x := range append(append(badLines(), goodLines()...), "", "=1 3 book eng", "\n", "\n\n", dogsText, bareText) {
			wantParse(t, s+x+"\n", api.Record{}, at, api.ErrForm)
			wantParse(t, s+x+"\n\n", api.Record{}, at, api.ErrForm)
			if x != "" {
				wantParse(t, s+x, api.Record{}, at, api.ErrForm)
			}
		}
		wantParse(t, s+s, api.Record{}, at, api.ErrForm)
	}
}

// P11.2: a line that no field has, and one that is not ended, at each place; of two wrong lines the first one counts.
func TestParseWrong(t *testing.T) {
	bad, good := badLines(), goodLines()
	for n := range 6 {
		fields := good[:n]
		for i := range n + 1 {
			for k, x := range bad {
				list := slices.Insert(slices.Clone(fields), i, x)
				s := "=1 3 book eng\n" + joined(list...)
				wantParse(t, s, api.Record{}, i+2, api.ErrForm)
				wantParse(t, s+"\n", api.Record{}, i+2, api.ErrForm)
				wantParse(t, s+"\n\n", api.Record{}, i+2, api.ErrForm)
				wantParse(t, s+joined(bad[k:]...), api.Record{}, i+2, api.ErrForm)
				wantParse(t, "=1 3 book eng\n"+joined(list[:i]...)+x, api.Record{}, i+2, api.ErrForm)
				wantParse(t, "=1 3 book en\n"+joined(list...)+"\n", api.Record{}, 1, api.ErrForm)
			}
			whole := "=1 3 book eng\n" + joined(fields[:i]...)
			wantParse(t, whole, api.Record{}, i+2, api.ErrForm)
			wantParsed(t, whole+"\n")
			if i > 0 {
				wantParse(t, strings.TrimSuffix(whole, "\n"), api.Record{}, i+1, api.ErrForm)
			}
			// An empty line in between ends the record there.
			if i < n {
				wantParse(t, whole+"\n"+joined(fields[i:]...)+"\n", api.Record{}, i+3, api.ErrForm)
			}
		}
	}
}

// P11.2: a line that is wrong at every place of a record with as many fields as possible.
func TestParsePlaces(t *testing.T) {
	for _, n := range []int{1, 2, 31, 63, 64} {
		for i := range n {
			for _, x := range []string{"x", "245 10 $a", "009 10 $aDogs", "=1 3 book eng", " "} {
				list := repeated("245 10 $aDogs", n)
				list[i] = x
				wantParse(t, "=1 3 book eng\n"+joined(list...)+"\n", api.Record{}, i+2, api.ErrForm)
				wantParse(t, "=1 3 book eng\n"+joined(list[:i]...)+x, api.Record{}, i+2, api.ErrForm)
			}
			list := repeated("245 10 $aDogs", i)
			wantParse(t, "=1 3 book eng\n"+joined(list...)+"\n"+joined(list...)+"\n", api.Record{}, i+3, api.ErrForm)
		}
	}
}

// P11.2: MaxFields lines of fields, and what can stand behind them.
func TestParseFull(t *testing.T) {
	r := book(times(64)...)
	s := strings.TrimSuffix(textOf(r), "\n")
	wantParse(t, s, api.Record{}, 66, api.ErrForm)
	wantParse(t, s+"\n", r, 0, api.OK)
	wantParse(t, strings.TrimSuffix(s, "\n"), api.Record{}, 65, api.ErrForm)
	for _, x := range append(badLines(), goodLines()...) {
		for _, behind := range []string{"", "\n", "\n\n", "\n\n\n", "\nx", "\n245 10 $aDogs\n\n", "\n\nx"} {
			wantParse(t, s+x+behind, api.Record{}, 66, api.ErrLong)
		}
		// Behind the empty line the number of fields does not matter any more.
		wantParse(t, s+"\n"+x, api.Record{}, 67, api.ErrForm)
		wantParse(t, s+"\n"+x+"\n", api.Record{}, 67, api.ErrForm)
		wantParse(t, s+"\n"+x+"\n\n", api.Record{}, 67, api.ErrForm)
		// A wrong line before counts first.
		wantParse(t, strings.Replace(s, "650 ", "65 ", 1)+x+"\n\n", api.Record{}, 2, api.ErrForm)
		wantParse(t, strings.Replace(s, "$afield 63", "$a", 1)+x+"\n\n", api.Record{}, 65, api.ErrForm)
	}
	wantParse(t, s+"\n\n", api.Record{}, 67, api.ErrForm)
	for n := 60; n < 70; n++ {
		for _, tail := range []string{"", "\n", "\n\n", "x", "x\n", "x\n\n", "245 10 $aDogs", "245 10 $aDogs\n", "245 10 $aDogs\n\n", "\nx", "\nx\n", "\n245 10 $aDogs\n"} {
			wantParsed(t, "=1 3 book eng\n"+joined(repeated("245 10 $aDogs", n)...)+tail)
		}
	}
	for n := 65; n < 200; n++ {
		fields := joined(repeated("245 10 $aDogs", n)...)
		wantParse(t, "=1 3 book eng\n"+fields, api.Record{}, 66, api.ErrLong)
		wantParse(t, "=1 3 book eng\n"+fields+"\n", api.Record{}, 66, api.ErrLong)
		wantParse(t, "=1 4 book eng\n"+fields+"\n", api.Record{}, 1, api.ErrForm)
	}
}

// P11.2: texts in which one byte is changed, left out, put in, doubled or exchanged with the next one, at every place, and texts that are cut.
func TestParseChanged(t *testing.T) {
	random := rand.New(rand.NewSource(112))
	list := fewRecords()
	for range 10 {
		list = append(list, randomRecord(random, 4, 12))
	}
	for _, r := range list {
		s := textOf(r)
		for i := range len(s) {
			for _, c := range "0159azAZ \n=$#@\r\t\x00\x7f\u00a0é+-" {
				wantParsed(t, s[:i]+string(c)+s[i+1:])
				wantParsed(t, s[:i]+string(c)+s[i:])
			}
			wantParsed(t, s[:i]+s[i+1:])
			wantParsed(t, s[:i]+s[i:i+1]+s[i:])
			if i > 0 {
				wantParsed(t, s[:i-1]+s[i:i+1]+s[i-1:i]+s[i+1:])
			}
			wantParsed(t, s[i:])
			_, line, err := Parse(s[:i])
			if want := 1 + strings.Count(s[:i], "\n"); line != want || err != api.ErrForm {
				t.Errorf("Parse of %q is %d, error %d, not %d, error %d", s[:i], line, int(err), want, int(api.ErrForm))
			}
		}
	}
}

// P11.2: every byte at every place.
func TestParseBytes(t *testing.T) {
	for _, r := range fewRecords() {
		s := textOf(r)
		for i := range len(s) {
			for c := range 256 {
				x := string([]byte{byte(c)})
				wantParsed(t, s[:i]+x+s[i+1:])
				wantParsed(t, s[:i]+x+s[i:])
			}
		}
	}
}

// P11.2: texts with two or three changes, and lines that are left out, doubled and exchanged.
func TestParseTwice(t *testing.T) {
	random := rand.New(rand.NewSource(113))
	const chars = "0159azA \n\n\n=$$#@"
	for _, r := range someRecords() {
		s := textOf(r)
		// The definition takes long for long texts.
		if len(s) > 5000 {
			continue
		}
		for range 20000 / len(s) {
			b := []byte(s)
			for range 2 + random.Intn(2) {
				b[random.Intn(len(b))] = chars[random.Intn(len(chars))]
			}
			wantParsed(t, string(b))
		}
		list := strings.Split(s, "\n")
		for i := range list {
			wantParsed(t, strings.Join(slices.Delete(slices.Clone(list), i, i+1), "\n"))
			for j := range list[:min(5, len(list))] {
				wantParsed(t, strings.Join(slices.Insert(slices.Clone(list), i, list[j]), "\n"))
				other := slices.Clone(list)
				other[i], other[j] = other[j], other[i]
				wantParsed(t, strings.Join(other, "\n"))
			}
		}
	}
}

// P11.2: all sequences of a few lines, the last one ended or not.
func TestParseSequences(t *testing.T) {
	parts := []string{"", "=1 3 book eng", "245 10 $aDogs", "x", "650@3 #0 $aDogs"}
	sequences := []string{""}
	for range 6 {
		var longer []string
		for _, s := range sequences {
			wantParsed(t, s)
			for _, part := range parts {
				wantParsed(t, s+part)
				longer = append(longer, s+part+"\n")
			}
		}
		sequences = longer
	}
}

// P11.2: a wrong text leaves nothing for the next call, and records that were returned belong to the caller.
func TestParseKept(t *testing.T) {
	for _, want := range someRecords() {
		s := textOf(want)
		first, _, _ := Parse(s)
		wantParsed(t, s[:len(s)-1])
		wantParsed(t, s+"x")
		second, _, _ := Parse(s)
		if !equal(first, want) || !equal(second, want) {
			t.Errorf("Parse a second time returns another record than %s", shown(want))
		}
		spoil(first)
		if !equal(second, want) {
			t.Errorf("two records that Parse returned share their memory, %s", shown(want))
		}
		for i := range second.Fields {
			_ = append(second.Fields[i].Subs, sub('!', "!"))
		}
		_ = append(second.Fields, with("999", sub('!', "!")))
		if !equal(second, want) {
			t.Errorf("the fields of one record share their memory, %s", shown(want))
		}
		wantParse(t, s, want, 0, api.OK)
	}
}

// wantHeader compares Parse of a record with a header, with and without fields, with the definition.
func wantHeader(t *testing.T, header string) {
	t.Helper()
	r, ok := headerOf(header)
	if !ok {
		for _, s := range []string{header, header + "\n", header + "\n\n", header + "\n245 10 $aDogs\n\n", header + "\nx", header + "\n\nx\n"} {
			wantParse(t, s, api.Record{}, 1, api.ErrForm)
		}
		return
	}
	wantParse(t, header, api.Record{}, 1, api.ErrForm)
	wantParse(t, header+"\n", api.Record{}, 2, api.ErrForm)
	wantParse(t, header+"\n\n", r, 0, api.OK)
	wantParse(t, header+"\n\nx\n", api.Record{}, 3, api.ErrForm)
	r.Fields = dogs().Fields
	wantParse(t, header+"\n245 10 $aDogs\n\n", r, 0, api.OK)
}

// P11.2: headers with other parts than those of a record.
func TestParseHeader(t *testing.T) {
	wrong := []string{"", "=", "==", "= ", "=   ", "=1", "=1 ", "=1 3", "=1 3 ", "=1 3 book", "=1 3 book ", "1 3 book eng", " =1 3 book eng", "==1 3 book eng", "#1 3 book eng", "=1 3 book eng ", "= 1 3 book eng", "=1  3 book eng", "=1 3  book eng", "=1 3 book  eng",
		"=1 3book eng", "=13 book eng", "=1 3 bookeng", "=1\t3 book eng", "=1\u00a03 book eng", "=1 3 book eng\r", "=1 3 eng book", "=3 1 eng", "=book 3 1 eng", "=1 book 3 eng", "=1 3 book eng eng", "=1 3 book eng=", "=1 3 book eng\x00", "\x00=1 3 book eng", "\ufeff=1 3 book eng", "=1 3 book =eng",
		"= 3 book eng", "=1  book eng", "=1 3  eng", "=1 3 book  ", "=,1 3 book eng", "=1,3,book,eng"}
	for _, s := range wrong {
		if _, ok := headerOf(s); ok {
			t.Fatalf("%q is a header", s)
		}
		wantHeader(t, s)
	}
	numbers := []string{"", "0", "00", "1", "01", "001", "00001", "2", "3", "4", "9", "10", "010", "999", "1000", "9999", "09999", "10000", "10001", "99999", "65537", "65539", "4294967297", "4294967299", "9223372036854775807", "9223372036854775808", "18446744073709551617", "18446744073709551619",
		strings.Repeat("9", 100), strings.Repeat("0", 100) + "1", "+1", "-1", "+0", "-0", "--1", "1_0", "0x1", "1e1", "1.", "1.0", ".1", "a", "\u0661", "\uff11", "1a", "a1", "1\x00", "\x001", "1 1"}
	for _, n := range numbers {
		wantHeader(t, "="+n+" 3 book eng")
		wantHeader(t, "=1 "+n+" book eng")
		for _, m := range numbers {
			wantHeader(t, "="+n+" "+m+" map fra")
		}
	}
	words := []string{"", "book", "serial", "map", "digital", "Book", "BOOK", "bOOK", "booK", "Serial", "SERIAL", "Map", "MAP", "Digital", "DIGITAL", "boo", "ook", "books", "bbook", "serials", "maps", "ma", "digita", "digitals", "b", "s", "m", "d", "1", "2", "3", "4", "0", "5", "kind", "bookserial", "book\x00", "ｂook", "bo ok", "\u212a", "boo\u212a", "ſerial"}
	for _, word := range words {
		wantHeader(t, "=1 3 "+word+" eng")
		wantHeader(t, "=1 3 "+word+" zzz")
	}
}

// P11.2: languages of other lengths, and of every byte.
func TestParseLanguage(t *testing.T) {
	for _, lang := range []string{"", "e", "en", "eng", "engl", "engli", "ENG", "Eng", "enG", "e1g", "123", "e g", "en ", " en", "   ", "éng", "én", "é", "ébc", "en\x00", "en\r", "e-g", "aaa", "zzz", "```", "{{{", "en{", "en`", "\xff\xff\xff", "abcdefghi", strings.Repeat("eng", 100)} {
		wantHeader(t, "=1 3 book "+lang)
		wantHeader(t, "=9999 1 digital "+lang)
	}
	for c := range 256 {
		if x := string([]byte{byte(c)}); x != "\n" {
			for _, lang := range []string{x + "ng", "e" + x + "g", "en" + x, "eng" + x, x + "eng", x, x + x + x} {
				wantHeader(t, "=1 3 book "+lang)
			}
		}
	}
}

// P11.2: every number that fits into five digits, as an ID and as a version, with and without leading zeros.
func TestParseNumbers(t *testing.T) {
	for n := range 10500 {
		wantHeader(t, fmt.Sprintf("=%d 3 book eng", n))
		wantHeader(t, fmt.Sprintf("=%05d 3 book eng", n))
		wantHeader(t, fmt.Sprintf("=%d 3 book eng", -n-1))
	}
	for n := range 400 {
		wantHeader(t, fmt.Sprintf("=7 %d serial ger", n))
		wantHeader(t, fmt.Sprintf("=7 %02d serial ger", n))
		wantHeader(t, fmt.Sprintf("=7 %d serial ger", -n-1))
		wantHeader(t, fmt.Sprintf("=7 %d%s serial ger", n, strings.Repeat("0", 10)))
	}
}
