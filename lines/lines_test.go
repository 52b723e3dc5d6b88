package lines

import (
	"fmt"
	"math/rand"
	"regexp"
	"slices"
	"strconv"
	"strings"
	"testing"
	"time"
	"unicode/utf8"

	"library/api"
)

// sub returns a subfield.
func sub(code byte, value string) api.Sub { return api.Sub{Code: code, Value: value} }

// with returns a field with a tag.
func with(tag string, subs ...api.Sub) api.Field {
	return api.Field{Tag: tag, Ind: " 0", Subs: subs}
}

// linked returns a field that is linked to an authority.
func linked(auth int) api.Field {
	return api.Field{Tag: "650", Ind: " 0", Subs: []api.Sub{sub('a', "Dogs")}, Auth: auth}
}

// book returns a record that is valid if its fields are.
func book(fields ...api.Field) api.Record {
	return api.Record{ID: 1, Version: 3, Kind: api.KdBook, Lang: "eng", Fields: fields}
}

// times returns n fields, each of which tells by its value which one it is.
func times(n int) []api.Field {
	var list []api.Field
	for i := range n {
		list = append(list, with("650", sub('a', fmt.Sprintf("field %d", i))))
	}
	return list
}

// subs returns n subfields, each of which tells by its value which one it is.
func subs(n int) []api.Sub {
	var list []api.Sub
	for i := range n {
		list = append(list, sub("abcxyz0189"[i%10], fmt.Sprintf("sub %d", i)))
	}
	return list
}

// most returns the subfields of which as many as possible are as long as possible; each "$" is two bytes of a line.
func most() []api.Sub {
	return slices.Repeat([]api.Sub{sub('a', strings.Repeat("$", 200))}, 16)
}

// dogs returns the record of the chapter's examples.
func dogs() api.Record {
	return book(api.Field{Tag: "245", Ind: "10", Subs: []api.Sub{sub('a', "Dogs")}})
}

// The lines of the record of the chapter's examples, and those of a record without fields.
const (
	dogsText = "=1 3 book eng\n245 10 $aDogs\n\n"
	bareText = "=1 3 book eng\n\n"
)

// short shortens what is shown.
func short(s string) string {
	if len(s) > 300 {
		return s[:300] + fmt.Sprintf(".. (%d bytes)", len(s))
	}
	return s
}

// shown shows all parts of a record; it does not tell apart nil and empty lists.
func shown(r api.Record) string {
	var b strings.Builder
	for _, f := range r.Fields {
		fmt.Fprintf(&b, "{tag %q, indicators %q, subfields %q, authority %d}", f.Tag, f.Ind, f.Subs, f.Auth)
	}
	return short(fmt.Sprintf("record %d, version %d, kind %d, language %q, %d fields %s", r.ID, r.Version, r.Kind, r.Lang, len(r.Fields), b.String()))
}

// equal reports whether all parts of two records are equal; nil and empty lists are.
func equal(a, b api.Record) bool {
	return a.ID == b.ID && a.Version == b.Version && a.Kind == b.Kind && a.Lang == b.Lang && equalFields(a.Fields, b.Fields)
}

// equalFields reports whether all parts of two lists of fields are equal.
func equalFields(a, b []api.Field) bool {
	return slices.EqualFunc(a, b, func(f, g api.Field) bool {
		return f.Tag == g.Tag && f.Ind == g.Ind && f.Auth == g.Auth && slices.Equal(f.Subs, g.Subs)
	})
}

// roomy returns the same record in new memory: its lists have room behind their ends, in which something stands.
func roomy(r api.Record) api.Record {
	fields := make([]api.Field, 0, len(r.Fields)+3)
	for _, f := range r.Fields {
		list := append(make([]api.Sub, 0, len(f.Subs)+3), f.Subs...)
		copy(list[len(list):cap(list)], subs(3))
		f.Subs = list
		fields = append(fields, f)
	}
	copy(fields[len(fields):cap(fields)], times(3))
	r.Fields = fields
	return r
}

// roomyList returns the same records in new memory, in a list with room behind its end.
func roomyList(l []api.Record) []api.Record {
	list := make([]api.Record, 0, len(l)+3)
	for _, r := range l {
		list = append(list, roomy(r))
	}
	copy(list[len(list):cap(list)], []api.Record{dogs(), dogs(), dogs()})
	return list
}

// whole returns a copy of a record, and of all that stands behind the ends of its lists.
func whole(r api.Record) (api.Record, []api.Field) {
	fields := slices.Clone(r.Fields)
	var room []api.Field
	for i, f := range r.Fields[:cap(r.Fields)] {
		if i < len(fields) {
			fields[i].Subs = slices.Clone(f.Subs)
		}
		f.Subs = slices.Clone(f.Subs[:cap(f.Subs)])
		room = append(room, f)
	}
	r.Fields = fields
	return r, room
}

// keeper returns what reports whether records are still as they were, with all that stands behind the ends of their lists.
func keeper(l ...api.Record) func() bool {
	type state struct {
		r    api.Record
		room []api.Field
	}
	var before []state
	for _, r := range l[:cap(l)] {
		var s state
		s.r, s.room = whole(r)
		before = append(before, s)
	}
	return func() bool {
		for i, r := range l[:cap(l)] {
			now, room := whole(r)
			if !equal(now, before[i].r) || !equalFields(room, before[i].room) {
				return false
			}
		}
		return true
	}
}

// spoil writes into all lists of a record, and behind their ends.
func spoil(r api.Record) {
	for _, f := range r.Fields {
		clear(f.Subs[:cap(f.Subs)])
	}
	clear(r.Fields[:cap(r.Fields)])
}

// lineOf returns the line of a field, as chapter 7 describes it, without what ends it.
func lineOf(f api.Field) string {
	line := f.Tag
	if f.Auth != 0 {
		line += fmt.Sprintf("@%d", f.Auth)
	}
	line += " " + strings.Join(strings.Split(f.Ind, " "), "#") + " "
	for _, s := range f.Subs {
		line += "$" + string([]byte{s.Code}) + strings.Join(strings.Split(s.Value, "$"), "$$")
	}
	return line
}

// textOf returns the lines of a record, as the chapter defines them.
func textOf(r api.Record) string {
	word := map[int]string{1: "book", 2: "serial", 3: "map", 4: "digital"}[r.Kind]
	s := fmt.Sprintf("=%d %d %s %s\n", r.ID, r.Version, word, r.Lang)
	for _, f := range r.Fields {
		s += lineOf(f) + "\n"
	}
	return s + "\n"
}

// What the lines look like, and what a text is.
var (
	headerShape = regexp.MustCompile(`\A=(0|[1-9][0-9]{0,3}) ([123]) (book|serial|map|digital) ([a-z]{3})\z`)
	lineShape   = regexp.MustCompile(`\A((?:0[1-9]|[1-9][0-9])[0-9])(?:@([1-9][0-9]{0,3}))? ([#0-9]{2}) ((?:\$[a-z0-9](?:[^$]|\$\$)+){1,16})\z`)
	subShape    = regexp.MustCompile(`\$([a-z0-9])((?:[^$]|\$\$)+)`)
	textShape   = regexp.MustCompile(`\A[\x{20}-\x{7e}\x{a0}-\x{ffff}]*\z`)
)

// asNumber returns the number that digits denote, and 0 for none.
func asNumber(s string) int {
	n, _ := strconv.Atoi("0" + s)
	return n
}

// headerOf returns the record without fields that has a header, and whether there is one.
func headerOf(s string) (api.Record, bool) {
	part := headerShape.FindStringSubmatch(s)
	if part == nil {
		return api.Record{}, false
	}
	kind := map[string]int{"book": 1, "serial": 2, "map": 3, "digital": 4}[part[3]]
	return api.Record{ID: asNumber(part[1]), Version: asNumber(part[2]), Kind: kind, Lang: part[4]}, true
}

// fieldOf returns the field that has a line, and whether there is one.
func fieldOf(s string) (api.Field, bool) {
	part := lineShape.FindStringSubmatch(s)
	if part == nil || !utf8.ValidString(s) || !textShape.MatchString(s) {
		return api.Field{}, false
	}
	f := api.Field{Tag: part[1], Ind: strings.Join(strings.Split(part[3], "#"), " "), Auth: asNumber(part[2])}
	for _, x := range subShape.FindAllStringSubmatch(part[4], -1) {
		value := strings.Join(strings.Split(x[2], "$$"), "$")
		if len(value) > 200 {
			return api.Field{}, false
		}
		f.Subs = append(f.Subs, sub(x[1][0], value))
	}
	return f, true
}

// wrongOf returns what the chapter says is wrong with line i, from 0 on, of lines of which none before it is wrong; the last one is not ended.
func wrongOf(list []string, i int) api.Errno {
	ended := i < len(list)-1
	gap := 1 + slices.Index(list[1:], "")
	isHeader := headerShape.MatchString(list[i])
	_, isField := fieldOf(list[i])
	switch behind := gap > 0 && i > gap; {
	case behind && (list[i] != "" || ended):
		return api.ErrForm
	case behind:
		return api.OK
	case i == 0 && !(ended && isHeader):
		return api.ErrForm
	case i == 0:
		return api.OK
	case list[i] != "" && i-1 >= 64:
		return api.ErrLong
	case list[i] != "" && !isField, !ended:
		return api.ErrForm
	}
	return api.OK
}

// parseOf returns what the chapter says that Parse returns.
func parseOf(s string) (api.Record, int, api.Errno) {
	list := strings.Split(s, "\n")
	for i := range list {
		if err := wrongOf(list, i); err != api.OK {
			return api.Record{}, i + 1, err
		}
	}
	r, _ := headerOf(list[0])
	for _, line := range list[1 : len(list)-2] {
		f, _ := fieldOf(line)
		r.Fields = append(r.Fields, f)
	}
	return r, 0, api.OK
}

// parseAllOf returns what the chapter says that ParseAll returns.
func parseAllOf(s string) ([]api.Record, int, api.Errno) {
	if len(s) > 65536 {
		return nil, 0, api.ErrLong
	}
	var list []api.Record
	before := 0
	for s != "" {
		if len(list) == 64 {
			return nil, before + 1, api.ErrFull
		}
		// The first empty line ends the record; without one all that is left is examined.
		first := s
		if i := strings.Index(s, "\n\n"); i >= 0 {
			first = s[:i+2]
		}
		r, at, err := parseOf(first)
		if err != api.OK {
			return nil, before + at, err
		}
		list = append(list, r)
		before += strings.Count(first, "\n")
		s = s[len(first):]
	}
	return list, 0, api.OK
}

// randomValue returns a value with at most n bytes.
func randomValue(random *rand.Rand, n int) string {
	chars := []string{"a", "b", " ", "0", "9", "$", "#", "=", "@", "é", "ß", "\u00a0", "中", "\ufffd", "\uffff", "\u0100"}
	value := chars[random.Intn(9)]
	for range random.Intn(n) {
		if c := chars[random.Intn(len(chars))]; len(value)+len(c) <= n {
			value += c
		}
	}
	return value
}

// randomField returns a valid field.
func randomField(random *rand.Rand, most int) api.Field {
	f := api.Field{Tag: fmt.Sprintf("%03d", 10+random.Intn(990)), Ind: string([]byte{" 0123456789"[random.Intn(11)], " 0123456789"[random.Intn(11)]})}
	if random.Intn(2) == 0 {
		f.Auth = random.Intn(10000)
	}
	for range 1 + random.Intn(4) {
		f.Subs = append(f.Subs, sub("abcdefghijklmnopqrstuvwxyz0123456789"[random.Intn(36)], randomValue(random, most)))
	}
	return f
}

// randomRecord returns a valid record with at most some fields, with values of at most some bytes.
func randomRecord(random *rand.Rand, fields, most int) api.Record {
	r := api.Record{ID: random.Intn(10000), Version: 1 + random.Intn(3), Kind: 1 + random.Intn(4), Lang: []string{"eng", "fra", "aaa", "zzz", "ger"}[random.Intn(5)]}
	for range random.Intn(fields + 1) {
		r.Fields = append(r.Fields, randomField(random, most))
	}
	return r
}

// fewRecords returns valid records with short lines; the lines of each are changed in every way.
func fewRecords() []api.Record {
	return []api.Record{book(), dogs(), book(linked(3)), book(linked(9999), with("010", sub('9', "$")), linked(10)),
		{ID: 0, Version: 1, Kind: api.KdSerial, Lang: "aaa"},
		{ID: 9999, Version: 2, Kind: api.KdMap, Lang: "zzz", Fields: []api.Field{with("999", sub('z', "a$$b=@#"), sub('a', " "))}},
		{ID: 10, Version: 3, Kind: api.KdDigital, Lang: "fra", Fields: []api.Field{with("100", sub('a', "é中"))}}}
}

// someRecords returns valid records of many kinds.
func someRecords() []api.Record {
	list := append(fewRecords(), book(times(1)...), book(times(2)...), book(times(63)...), book(times(64)...), book(with("010", subs(1)...)), book(with("999", subs(16)...)),
		book(with("245", sub('a', "Ünï 中 \uffff"), sub('0', strings.Repeat("é", 100)), sub('z', " "), sub('9', "\u00a0"))), book(with("245", most()...)),
		book(slices.Repeat([]api.Field{with("245", most()...)}, 64)...))
	random := rand.New(rand.NewSource(11))
	for range 60 {
		list = append(list, randomRecord(random, 6, 20))
	}
	for range 10 {
		list = append(list, randomRecord(random, 64, 200))
	}
	return list
}

// The examples of the chapter.
func TestExamples(t *testing.T) {
	if got, err := Print(dogs()); got != dogsText || err != api.OK {
		t.Errorf("Print is %q, error %d", got, int(err))
	}
	wantParse(t, dogsText, dogs(), 0, api.OK)
	wantParse(t, "=1 3 book eng\n245 10 $aDogs\n", api.Record{}, 3, api.ErrForm)
	wantParse(t, "=1 3 book eng\n245 10 $aDogs", api.Record{}, 2, api.ErrForm)
	wantParse(t, "=01 3 book eng\n\n", api.Record{}, 1, api.ErrForm)
	wantParse(t, "=1 3 book eng\n\nx", api.Record{}, 3, api.ErrForm)
	wantParseAll(t, dogsText+dogsText, []api.Record{dogs(), dogs()}, 0, api.OK)
	wantParseAll(t, dogsText+"=1", nil, 4, api.ErrForm)
}

// within fails if something takes too long.
func within(t *testing.T, name string, call func()) {
	t.Helper()
	start := time.Now()
	call()
	if d := time.Since(start); d > 10*time.Second {
		t.Errorf("%s takes %s", name, d)
	}
}

// The long arguments that the bound allows.
func TestLong(t *testing.T) {
	const size = 1 << 24
	for i, c := range []struct {
		s    string
		line int
		err  api.Errno
	}{
		{strings.Repeat("x", size), 1, api.ErrForm}, {strings.Repeat("\n", size), 1, api.ErrForm}, {strings.Repeat(" ", size), 1, api.ErrForm}, {strings.Repeat("=1 3 book eng\n", size/14), 2, api.ErrForm},
		{"=" + strings.Repeat("1", size), 1, api.ErrForm}, {"=1 3 book eng" + strings.Repeat("g", size) + "\n\n", 1, api.ErrForm}, {bareText + strings.Repeat("x", size), 3, api.ErrForm},
		{"=1 3 book eng\n245 10 " + strings.Repeat("$ax", size/3) + "\n\n", 2, api.ErrForm}, {"=1 3 book eng\n245 10 $a" + strings.Repeat("$", size) + "\n\n", 2, api.ErrForm},
		{"=1 3 book eng\n" + strings.Repeat("245 10 $aDogs\n", size/14), 66, api.ErrLong}, {bareText + strings.Repeat("\n", size), 3, api.ErrForm}, {strings.Repeat(dogsText, size/29), 4, api.ErrForm},
	} {
		within(t, fmt.Sprintf("long text %d", i), func() {
			wantParse(t, c.s, api.Record{}, c.line, c.err)
			wantParseAll(t, c.s, nil, 0, api.ErrLong)
		})
	}
	value := strings.Repeat("x", size)
	within(t, "long records", func() {
		for _, r := range []api.Record{book(with("245", sub('a', value))), book(with(value, sub('a', "x"))), {Version: 3, Kind: 1, Lang: value}, book(make([]api.Field, size/64)...)} {
			if s, err := Print(r); s != "" || err == api.OK {
				t.Errorf("Print of a long record is %q, error %d", short(s), int(err))
			}
		}
		if s, err := PrintAll(make([]api.Record, size/64)); s != "" || err != api.ErrFull {
			t.Errorf("PrintAll of a long list is %q, error %d", short(s), int(err))
		}
	})
}

// P11.5: Parse of Print is the record, which no other one has; P11.6: so it is with lists, also in two parts.
func TestRestoration(t *testing.T) {
	random := rand.New(rand.NewSource(115))
	seen := map[string]api.Record{}
	for range 20000 {
		r := randomRecord(random, 4, 8)
		s, err := Print(r)
		back, at, backErr := Parse(s)
		again, againErr := Print(back)
		if err != api.OK || at != 0 || backErr != api.OK || againErr != api.OK || !equal(back, r) || again != s {
			t.Fatalf("Parse of Print is %s, not %s", shown(back), shown(r))
		}
		if other, ok := seen[s]; ok && !equal(other, r) {
			t.Fatalf("two records have the lines %q", s)
		}
		seen[s] = r
	}
	for i := range 400 {
		var l []api.Record
		for range random.Intn(65) {
			l = append(l, randomRecord(random, i%7, 20))
		}
		n := random.Intn(len(l) + 1)
		s, err := PrintAll(l)
		first, firstErr := PrintAll(l[:n])
		second, secondErr := PrintAll(l[n:])
		if err != api.OK || firstErr != api.OK || secondErr != api.OK || s != first+second {
			t.Fatalf("PrintAll of %d and %d records is not the concatenation", n, len(l)-n)
		}
		wantParseAll(t, s, l, 0, api.OK)
		wantParseAll(t, first, l[:n], 0, api.OK)
		wantParseAll(t, second, l[n:], 0, api.OK)
	}
}
