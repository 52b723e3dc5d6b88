package exchange

import (
	"fmt"
	"math/rand"
	"regexp"
	"slices"
	"strconv"
	"strings"
	"testing"
	"time"

	"library/api"
	"library/record"
)

// The bytes that separate the parts of a form.
const (
	endField  = "\x1e"
	endRecord = "\x1d"
	beginSub  = "\x1f"
)

// sub returns a subfield.
func sub(code byte, value string) api.Sub { return api.Sub{Code: code, Value: value} }

// with returns a field with a tag.
func with(tag string, subs ...api.Sub) api.Field {
	return api.Field{Tag: tag, Ind: " 0", Subs: subs}
}

// book returns a record that is valid if its fields are.
func book(fields ...api.Field) api.Record {
	return api.Record{ID: 1, Version: 3, Kind: api.KdBook, Lang: "eng", Fields: fields}
}

// times returns n fields, each of which tells by its value which one it is.
func times(n int) []api.Field {
	var list []api.Field
	for i := range n {
		list = append(list, with("650", sub('a', fmt.Sprintf("field %d", i))))
	}
	return list
}

// subs returns n subfields, each of which tells by its value which one it is.
func subs(n int) []api.Sub {
	var list []api.Sub
	for i := range n {
		list = append(list, sub("abcxyz0189"[i%10], fmt.Sprintf("sub %d", i)))
	}
	return list
}

// long returns a value of n bytes, which begins with a mark.
func long(n int, mark string) string {
	return (mark + strings.Repeat("x", n))[:n]
}

// sized returns a record with n bytes, for n from 48 to 14000.
func sized(n int) api.Record {
	r := book()
	left := n - 26
	for left > 0 {
		// A field with one subfield has 21 bytes besides its value; what is left for the next one is nothing, or enough.
		size := min(left-21, 200)
		if rest := left - 21 - size; rest > 0 && rest < 22 {
			size -= 22
		}
		r.Fields = append(r.Fields, with("500", sub('a', long(size, fmt.Sprint(len(r.Fields))))))
		left -= 21 + size
	}
	return r
}

// dogs returns the record of the chapter's first example.
func dogs() api.Record {
	return api.Record{ID: 7, Version: 3, Kind: api.KdBook, Lang: "eng", Fields: []api.Field{
		{Tag: "245", Ind: "10", Subs: []api.Sub{sub('a', "Dogs")}},
	}}
}

// dogsForm is its form.
const dogsForm = "00051nb3eng0003700074500" + "245001300000" + endField + "10" + "0000" + beginSub + "aDogs" + endField + endRecord

// shown shows all parts of a record; it does not tell apart nil and empty lists.
func shown(r api.Record) string {
	var b strings.Builder
	for _, f := range r.Fields {
		fmt.Fprintf(&b, "{tag %q, indicators %q, subfields %q, authority %d}", f.Tag, f.Ind, f.Subs, f.Auth)
	}
	return short(fmt.Sprintf("record %d, version %d, kind %d, language %q, %d fields %s", r.ID, r.Version, r.Kind, r.Lang, len(r.Fields), b.String()))
}

// short shortens what is shown.
func short(s string) string {
	if len(s) > 400 {
		return s[:400] + fmt.Sprintf(".. (%d bytes)", len(s))
	}
	return s
}

// equal reports whether all parts of two records are equal; nil and empty lists are.
func equal(a, b api.Record) bool {
	return a.ID == b.ID && a.Version == b.Version && a.Kind == b.Kind && a.Lang == b.Lang && equalFields(a.Fields, b.Fields)
}

// equalFields reports whether all parts of two lists of fields are equal.
func equalFields(a, b []api.Field) bool {
	return slices.EqualFunc(a, b, func(f, g api.Field) bool {
		return f.Tag == g.Tag && f.Ind == g.Ind && f.Auth == g.Auth && slices.Equal(f.Subs, g.Subs)
	})
}

// roomy returns the same record in new memory: its lists have room behind their ends, in which something stands.
func roomy(r api.Record) api.Record {
	fields := make([]api.Field, 0, len(r.Fields)+3)
	for _, f := range r.Fields {
		list := append(make([]api.Sub, 0, len(f.Subs)+3), f.Subs...)
		copy(list[len(list):cap(list)], subs(3))
		f.Subs = list
		fields = append(fields, f)
	}
	copy(fields[len(fields):cap(fields)], times(3))
	r.Fields = fields
	return r
}

// roomyList returns the same records in new memory, in a list with room behind its end.
func roomyList(l []api.Record) []api.Record {
	list := make([]api.Record, 0, len(l)+3)
	for _, r := range l {
		list = append(list, roomy(r))
	}
	copy(list[len(list):cap(list)], []api.Record{dogs(), dogs(), dogs()})
	return list
}

// whole returns a copy of a record, and of all that stands behind the ends of its lists.
func whole(r api.Record) (api.Record, []api.Field) {
	fields := slices.Clone(r.Fields)
	var room []api.Field
	for i, f := range r.Fields[:cap(r.Fields)] {
		if i < len(fields) {
			fields[i].Subs = slices.Clone(f.Subs)
		}
		f.Subs = slices.Clone(f.Subs[:cap(f.Subs)])
		room = append(room, f)
	}
	r.Fields = fields
	return r, room
}

// keeper returns what reports whether records are still as they were, with all that stands behind the ends of their lists.
func keeper(l ...api.Record) func() bool {
	type state struct {
		r    api.Record
		room []api.Field
	}
	var before []state
	for _, r := range l[:cap(l)] {
		var s state
		s.r, s.room = whole(r)
		before = append(before, s)
	}
	return func() bool {
		for i, r := range l[:cap(l)] {
			now, room := whole(r)
			if !equal(now, before[i].r) || !equalFields(room, before[i].room) {
				return false
			}
		}
		return true
	}
}

// spoil writes into all lists of a record, and behind their ends.
func spoil(r api.Record) {
	for _, f := range r.Fields {
		clear(f.Subs[:cap(f.Subs)])
	}
	clear(r.Fields[:cap(r.Fields)])
}

// bytesOf returns the bytes of a record, as the chapter defines them.
func bytesOf(r api.Record) string {
	directory, body := "", ""
	for _, f := range r.Fields {
		content := fmt.Sprintf("%s%04d", f.Ind, f.Auth)
		for _, s := range f.Subs {
			content += "\x1f" + string([]byte{s.Code}) + s.Value
		}
		content += "\x1e"
		directory += fmt.Sprintf("%s%04d%05d", f.Tag, len(content), len(body))
		body += content
	}
	base := 24 + len(directory) + 1
	letter := map[int]string{1: "b", 2: "s", 3: "m", 4: "d"}[r.Kind]
	leader := fmt.Sprintf("%05dn%s%d%s%05d%04d4500", base+len(body)+1, letter, r.Version, r.Lang, base, r.ID)
	return leader + directory + "\x1e" + body + "\x1d"
}

// What the parts of a form look like.
var (
	leaderForm = regexp.MustCompile(`^(\d{5})n([bsmd])([123])([a-z]{3})(\d{5})(\d{4})4500$`)
	entryForm  = regexp.MustCompile(`^([0-9]{3})(\d{4})(\d{5})$`)
	partForm   = regexp.MustCompile(`^([ 0-9]{2})(\d{4})((?:\x1f[a-z0-9][^\x00-\x1f\x7f-\x{9f}\x{10000}-\x{10ffff}]+)+)\x1e$`)
)

// asNumber returns the number that digits denote.
func asNumber(s string) int {
	n, err := strconv.Atoi(s)
	if err != nil {
		panic(err)
	}
	return n
}

// recordOf returns the record whose bytes s is, and whether there is one; it reads s by its directory.
func recordOf(s string) (api.Record, bool) {
	if len(s) < 26 || len(s) > 9999 {
		return api.Record{}, false
	}
	leader := leaderForm.FindStringSubmatch(s[:24])
	if leader == nil || asNumber(leader[1]) != len(s) {
		return api.Record{}, false
	}
	r := api.Record{ID: asNumber(leader[6]), Version: asNumber(leader[3]), Kind: 1 + strings.Index("bsmd", leader[2]), Lang: leader[4]}
	base := asNumber(leader[5])
	if base < 25 || base > len(s)-1 || (base-25)%12 != 0 || s[base-1] != 30 || s[len(s)-1] != 29 {
		return api.Record{}, false
	}
	body := s[base : len(s)-1]
	end := 0
	for at := 24; at < base-1; at += 12 {
		entry := entryForm.FindStringSubmatch(s[at : at+12])
		if entry == nil || asNumber(entry[3]) != end || asNumber(entry[2]) > len(body)-end {
			return api.Record{}, false
		}
		f, ok := fieldOf(body[end : end+asNumber(entry[2])])
		if !ok {
			return api.Record{}, false
		}
		f.Tag = entry[1]
		end += asNumber(entry[2])
		r.Fields = append(r.Fields, f)
	}
	return r, end == len(body) && record.Right(r) == api.OK
}

// fieldOf returns the field whose bytes s is, without its tag, and whether there is one.
func fieldOf(s string) (api.Field, bool) {
	if strings.Count(s, "\x1e") != 1 || !validText(s) {
		return api.Field{}, false
	}
	part := partForm.FindStringSubmatch(s)
	if part == nil {
		return api.Field{}, false
	}
	f := api.Field{Ind: part[1], Auth: asNumber(part[2])}
	for _, x := range strings.Split(part[3], "\x1f")[1:] {
		f.Subs = append(f.Subs, sub(x[0], x[1:]))
	}
	return f, true
}

// validText reports whether s is valid UTF-8.
func validText(s string) bool { return strings.ToValidUTF8(s, "") == s }

// randomValue returns a value with at most n bytes.
func randomValue(random *rand.Rand, n int) string {
	chars := []string{"a", "b", " ", "0", "9", "$", "#", "~", "é", "ß", "\u00a0", "中", "\ufffd", "\uffff", "\u0100"}
	value := chars[random.Intn(8)]
	for range random.Intn(n) {
		if c := chars[random.Intn(len(chars))]; len(value)+len(c) <= n {
			value += c
		}
	}
	return value
}

// randomField returns a valid field.
func randomField(random *rand.Rand, most int) api.Field {
	f := api.Field{Tag: fmt.Sprintf("%03d", 10+random.Intn(990)), Ind: string([]byte{" 0123456789"[random.Intn(11)], " 0123456789"[random.Intn(11)]})}
	if random.Intn(2) == 0 {
		f.Auth = random.Intn(10000)
	}
	for range 1 + random.Intn(4) {
		f.Subs = append(f.Subs, sub("abcdefghijklmnopqrstuvwxyz0123456789"[random.Intn(36)], randomValue(random, most)))
	}
	return f
}

// randomRecord returns a valid record with at most some fields, with values of at most some bytes.
func randomRecord(random *rand.Rand, fields, most int) api.Record {
	r := api.Record{ID: random.Intn(10000), Version: 1 + random.Intn(3), Kind: 1 + random.Intn(4), Lang: []string{"eng", "fra", "aaa", "zzz", "ger"}[random.Intn(5)]}
	for range random.Intn(fields + 1) {
		r.Fields = append(r.Fields, randomField(random, most))
	}
	return r
}

// someRecords returns valid records of many kinds, none of which has more than 9999 bytes.
func someRecords() []api.Record {
	list := []api.Record{book(), dogs(), book(times(1)...), book(times(2)...), book(times(64)...), book(with("010", subs(1)...)), book(with("999", subs(16)...)),
		{ID: 0, Version: 1, Kind: 1, Lang: "aaa", Fields: []api.Field{}}, {ID: 9999, Version: 3, Kind: 4, Lang: "zzz"},
		book(with("245", sub('a', "Ünï 中 \uffff"), sub('0', long(200, "é")), sub('z', " "), sub('9', "\u00a0"))), sized(48), sized(9998), sized(9999)}
	random := rand.New(rand.NewSource(10))
	for range 60 {
		list = append(list, randomRecord(random, 6, 20))
	}
	for range 10 {
		list = append(list, randomRecord(random, 20, 120))
	}
	return list
}

// The examples of the chapter.
func TestExamples(t *testing.T) {
	if len(dogsForm) != 51 {
		t.Fatalf("the form has %d bytes", len(dogsForm))
	}
	if got, err := Encode(dogs()); got != dogsForm || err != api.OK {
		t.Errorf("Encode is %q, error %d", got, int(err))
	}
	if got, err := Decode(dogsForm); !equal(got, dogs()) || err != api.OK {
		t.Errorf("Decode is %s, error %d", shown(got), int(err))
	}
	if got, err := Encode(api.Record{Version: 3, Kind: api.KdBook, Lang: "eng"}); got != "00026nb3eng0002500004500"+endField+endRecord || len(got) != 26 || err != api.OK {
		t.Errorf("Encode of no fields is %q, error %d", got, int(err))
	}
	if l, i, err := Import(""); len(l) != 0 || i != -1 || err != api.OK {
		t.Errorf("Import of nothing is %d records, %d, error %d", len(l), i, int(err))
	}
	if l, err := Split("00025"); len(l) != 0 || err != api.ErrForm {
		t.Errorf("Split is %q, error %d", l, int(err))
	}
}

// within fails if something takes too long.
func within(t *testing.T, name string, call func()) {
	t.Helper()
	start := time.Now()
	call()
	if d := time.Since(start); d > 10*time.Second {
		t.Errorf("%s takes %s", name, d)
	}
}

// The long inputs that the bound allows.
func TestLong(t *testing.T) {
	const size = 1 << 24
	files := []string{strings.Repeat("0", size), strings.Repeat(dogsForm, size/51), strings.Repeat("00026", size/5), strings.Repeat(endField, size), strings.Repeat(beginSub, size),
		dogsForm[:24] + strings.Repeat("245000000000", size/12), dogsForm[:37] + strings.Repeat(beginSub, size), dogsForm[:37] + strings.Repeat(endField, size)}
	for i, s := range files {
		within(t, fmt.Sprintf("long input %d", i), func() {
			if r, err := Decode(s); err != api.ErrForm || !equal(r, api.Record{}) {
				t.Errorf("Decode of long input %d is error %d", i, int(err))
			}
			Split(s)
			if l, at, err := Import(s); err == api.OK || at != -1 || len(l) != 0 {
				t.Errorf("Import of long input %d is %d, error %d", i, at, int(err))
			}
		})
	}
	value := strings.Repeat("x", size)
	within(t, "long records", func() {
		for _, r := range []api.Record{book(with("245", sub('a', value))), book(with(value, sub('a', "x"))), {Version: 3, Kind: 1, Lang: value}, book(make([]api.Field, size/64)...)} {
			if s, err := Encode(r); s != "" || err == api.OK {
				t.Errorf("Encode of a long record is %q, error %d", short(s), int(err))
			}
		}
		if s, err := Export(make([]api.Record, size/64)); s != "" || err != api.ErrFull {
			t.Errorf("Export of a long list is %q, error %d", short(s), int(err))
		}
	})
}
