package exchange

import (
	"fmt"
	"math/rand"
	"slices"
	"strings"
	"testing"

	"library/api"
	"library/record"
)

// wantDecode compares Decode with what it must return; a record without a version stands for none.
func wantDecode(t *testing.T, s string, want api.Record) {
	t.Helper()
	wantErr := api.OK
	if want.Version == 0 {
		wantErr = api.ErrForm
	}
	got, err := Decode(s)
	if err != wantErr || !equal(got, want) {
		t.Errorf("Decode of %q is %s, error %d, not %s, error %d", short(s), shown(got), int(err), shown(want), int(wantErr))
	}
}

// wantRead compares Decode with the definition, and what P10.7 says of its record.
func wantRead(t *testing.T, s string) {
	t.Helper()
	got, err := Decode(s)
	want, ok := recordOf(s)
	if !ok {
		want = api.Record{}
	}
	if !equal(got, want) || (err == api.OK) != ok || !ok && err != api.ErrForm {
		t.Errorf("Decode of %q is %s, error %d, not %s", short(s), shown(got), int(err), shown(want))
	}
	if err != api.OK {
		return
	}
	if again, err := Encode(got); again != s || err != api.OK {
		t.Errorf("Encode of what Decode returns is %q, error %d, not %q", short(again), int(err), short(s))
	}
}

// smallForms are forms of which every part is changed in every way.
func smallForms() []string {
	linked := with("650", sub('a', "é"), sub('x', "$ 0"))
	linked.Auth = 30
	return []string{dogsForm, bytesOf(book()), bytesOf(api.Record{ID: 9999, Version: 1, Kind: 4, Lang: "zaz"}),
		bytesOf(api.Record{ID: 10, Version: 2, Kind: 2, Lang: "abc", Fields: []api.Field{linked, with("010", sub('9', "9")), linked}})}
}

// someForms are forms of which every part is changed in some ways.
func someForms() []string {
	list := append(smallForms(), bytesOf(book(times(12)...)), bytesOf(book(with("245", subs(16)...))), bytesOf(book(with("245", sub('a', long(200, "x")), sub('b', strings.Repeat("é", 100))))))
	random := rand.New(rand.NewSource(102))
	for range 12 {
		list = append(list, bytesOf(randomRecord(random, 5, 15)))
	}
	return list
}

// P10.2: every byte at every place of a form, in place of the one that stands there, and between two.
func TestDecodeBytes(t *testing.T) {
	for _, s := range smallForms() {
		for i := range len(s) + 1 {
			for c := range 256 {
				x := string([]byte{byte(c)})
				wantRead(t, s[:i]+x+s[i:])
				if i < len(s) {
					wantRead(t, s[:i]+x+s[i+1:])
				}
			}
		}
	}
}

// P10.2: bytes that are changed, left out, put in and exchanged, at every place of many forms.
func TestDecodeChanged(t *testing.T) {
	for _, s := range someForms() {
		wantRead(t, s)
		for i := range len(s) {
			for _, c := range []byte{'0', '1', '2', '5', '9', 'a', 'n', 'z', 'A', ' ', '-', '+', '#', '$', 28, 29, 30, 31, 32, 127, 128, 195, 255, 0} {
				wantRead(t, s[:i]+string([]byte{c})+s[i+1:])
				wantRead(t, s[:i]+string([]byte{c})+s[i:])
			}
			wantRead(t, s[:i]+s[i+1:])
			wantRead(t, s[:i]+s[i:i+1]+s[i:])
			if i > 0 {
				wantRead(t, s[:i-1]+s[i:i+1]+s[i-1:i]+s[i+1:])
			}
		}
	}
}

// P10.2: forms that are cut, at their ends and in the middle, and such with something behind or before them.
func TestDecodeCut(t *testing.T) {
	for _, s := range someForms() {
		for i := range len(s) {
			wantDecode(t, s[:i], api.Record{})
			wantDecode(t, s[i+1:], api.Record{})
			for j := i + 1; j < len(s); j += 1 + len(s)/50 {
				wantRead(t, s[:i]+s[j:])
			}
		}
		for c := range 256 {
			wantDecode(t, s+string([]byte{byte(c)}), api.Record{})
			wantDecode(t, string([]byte{byte(c)})+s, api.Record{})
		}
		wantDecode(t, s+s, api.Record{})
		wantDecode(t, s+dogsForm, api.Record{})
		wantDecode(t, s+endRecord, api.Record{})
		wantDecode(t, s+endField+endRecord, api.Record{})
	}
}

// P10.2: two bytes that are changed at a time.
func TestDecodeTwice(t *testing.T) {
	random := rand.New(rand.NewSource(103))
	marks := "0123456789abnz -+\x1c\x1d\x1e\x1f\x7f\xff"
	for _, s := range someForms() {
		for range 6000 {
			b := []byte(s)
			for range 2 + random.Intn(2) {
				b[random.Intn(len(b))] = marks[random.Intn(len(marks))]
			}
			wantRead(t, string(b))
		}
	}
}

// entry is what a directory says of a field, and its bytes.
type entry struct{ tag, size, place, content string }

// parts are the parts of a form, each of which can be wrong.
type parts struct {
	size, letter, kind, version, lang, base, id, end string
	entries                                          []entry
	directoryEnd, body, recordEnd                    string
}

// take returns the parts of the form of a record.
func take(r api.Record) parts {
	s := bytesOf(r)
	p := parts{size: s[:5], letter: s[5:6], kind: s[6:7], version: s[7:8], lang: s[8:11], base: s[11:16], id: s[16:20], end: s[20:24], directoryEnd: endField, recordEnd: endRecord}
	base := asNumber(p.base)
	for i := range r.Fields {
		x := s[24+12*i : 36+12*i]
		e := entry{tag: x[:3], size: x[3:7], place: x[7:12]}
		e.content = s[base+asNumber(e.place) : base+asNumber(e.place)+asNumber(e.size)]
		p.entries = append(p.entries, e)
	}
	p.body = s[base : len(s)-1]
	return p
}

// form returns the form that consists of the parts.
func (p parts) form() string {
	directory := ""
	for _, e := range p.entries {
		directory += e.tag + e.size + e.place
	}
	return p.size + p.letter + p.kind + p.version + p.lang + p.base + p.id + p.end + directory + p.directoryEnd + p.body + p.recordEnd
}

// fitted returns the form that consists of the parts, whose numbers and fields agree with the contents of the entries.
func (p parts) fitted() string {
	p.entries = slices.Clone(p.entries)
	p.body = ""
	for i, e := range p.entries {
		p.entries[i].size = fmt.Sprintf("%04d", len(e.content))
		p.entries[i].place = fmt.Sprintf("%05d", len(p.body))
		p.body += e.content
	}
	p.base = fmt.Sprintf("%05d", 24+12*len(p.entries)+1)
	p.size = fmt.Sprintf("%05d", 24+12*len(p.entries)+1+len(p.body)+1)
	return p.form()
}

// threeFields returns a record with three fields of different lengths, and one with three of the same.
func threeFields() []api.Record {
	return []api.Record{book(with("245", sub('a', "one")), with("246", sub('b', "second")), with("300", sub('c', "the third"))), book(times(3)...),
		book(with("245", sub('a', "x")), with("245", sub('a', "x")), with("245", sub('a', "x")))}
}

// P10.2: the parts themselves: a form that is put together again is the form.
func TestDecodeParts(t *testing.T) {
	for _, r := range append(threeFields(), book(), dogs()) {
		p := take(r)
		wantDecode(t, p.form(), r)
		wantDecode(t, p.fitted(), r)
	}
}

// P10.2: every number that disagrees with what follows.
func TestDecodeNumbers(t *testing.T) {
	for _, r := range threeFields() {
		for n := range 10000 {
			p := take(r)
			p.size = fmt.Sprintf("%05d", n)
			wantNumber(t, p, take(r).size, p.size, r)
			p = take(r)
			p.base = fmt.Sprintf("%05d", n)
			wantNumber(t, p, take(r).base, p.base, r)
			for i := range 3 {
				p = take(r)
				p.entries[i].size = fmt.Sprintf("%04d", n)
				wantNumber(t, p, take(r).entries[i].size, p.entries[i].size, r)
				p = take(r)
				p.entries[i].place = fmt.Sprintf("%05d", n)
				wantNumber(t, p, take(r).entries[i].place, p.entries[i].place, r)
			}
		}
		for _, n := range []int{10000, 10050, 65536, 90000, 99999} {
			p := take(r)
			p.size = fmt.Sprintf("%05d", n)
			wantDecode(t, p.form(), api.Record{})
			p = take(r)
			p.base = fmt.Sprintf("%05d", n)
			wantDecode(t, p.form(), api.Record{})
			p = take(r)
			p.entries[1].place = fmt.Sprintf("%05d", n)
			wantDecode(t, p.form(), api.Record{})
		}
	}
}

// wantNumber checks a form with a number that was right, and is another one now.
func wantNumber(t *testing.T, p parts, right, now string, r api.Record) {
	t.Helper()
	if right != now {
		r = api.Record{}
	}
	wantDecode(t, p.form(), r)
}

// P10.2: two or three numbers that are changed so that their sums agree, or fields overlap or leave bytes between them.
func TestDecodeSums(t *testing.T) {
	for _, r := range threeFields() {
		for d := -30; d <= 30; d++ {
			for i := range 3 {
				for j := range 3 {
					p := take(r)
					first, second := asNumber(p.entries[i].size)+d, asNumber(p.entries[j].size)-d
					if d == 0 || i == j || first < 0 || second < 0 {
						continue
					}
					p.entries[i].size, p.entries[j].size = fmt.Sprintf("%04d", first), fmt.Sprintf("%04d", second)
					wantDecode(t, p.form(), api.Record{})
					place := 0
					for k, e := range p.entries {
						p.entries[k].place = fmt.Sprintf("%05d", place)
						place += asNumber(e.size)
					}
					wantDecode(t, p.form(), api.Record{})
					p = take(r)
					if place := asNumber(p.entries[i].place) + d; place >= 0 {
						p.entries[i].place = fmt.Sprintf("%05d", place)
						wantDecode(t, p.form(), api.Record{})
					}
				}
			}
		}
	}
}

// P10.2: fields that stand in another order than the directory says them, also if its places are right, and gaps between them.
func TestDecodeOrder(t *testing.T) {
	r := threeFields()[0]
	for _, order := range [][3]int{{0, 1, 2}, {0, 2, 1}, {1, 0, 2}, {1, 2, 0}, {2, 0, 1}, {2, 1, 0}} {
		p := take(r)
		body, places := "", [3]int{}
		for _, i := range order {
			places[i] = len(body)
			body += p.entries[i].content
		}
		p.body = body
		want := api.Record{}
		if order == [3]int{0, 1, 2} {
			want = r
		}
		wantDecode(t, p.form(), want)
		for i := range p.entries {
			p.entries[i].place = fmt.Sprintf("%05d", places[i])
		}
		wantDecode(t, p.form(), want)
		// The same order of the directory and of the fields gives another record.
		q := take(r)
		other := r
		other.Fields = nil
		for i, n := range order {
			q.entries[i] = take(r).entries[n]
			other.Fields = append(other.Fields, r.Fields[n])
		}
		wantDecode(t, q.fitted(), other)
		wantDecode(t, q.form(), want)
	}
	for i := range 4 {
		for _, gap := range []string{" ", "x", endField, endRecord, "\x1e\x1e", r.Lang, "\x1fax\x1e", " 00000\x1fax\x1e"} {
			wantGap(t, r, i, gap)
		}
	}
}

// wantGap checks a form in which something stands before field i, and its numbers are right otherwise.
func wantGap(t *testing.T, r api.Record, i int, gap string) {
	t.Helper()
	p := take(r)
	at := len(p.body)
	for k := range p.entries {
		if k >= i {
			at = min(at, asNumber(p.entries[k].place))
			p.entries[k].place = fmt.Sprintf("%05d", asNumber(p.entries[k].place)+len(gap))
		}
	}
	p.body = p.body[:at] + gap + p.body[at:]
	p.size = fmt.Sprintf("%05d", asNumber(p.size)+len(gap))
	wantDecode(t, p.form(), api.Record{})
}

// P10.2: entries of the directory that are missing, there twice, or of another length.
func TestDecodeEntries(t *testing.T) {
	r := threeFields()[0]
	for i := range 3 {
		p := take(r)
		p.entries = slices.Delete(p.entries, i, i+1)
		wantDecode(t, p.form(), api.Record{})
		p.base = "00049"
		p.size = fmt.Sprintf("%05d", asNumber(p.size)-12)
		wantDecode(t, p.form(), api.Record{})
		p = take(r)
		p.entries = slices.Insert(p.entries, i, p.entries[i])
		wantDecode(t, p.form(), api.Record{})
		p.base = "00073"
		p.size = fmt.Sprintf("%05d", asNumber(p.size)+12)
		wantDecode(t, p.form(), api.Record{})
		for n := range 12 {
			p = take(r)
			p.directoryEnd = "245000000000"[:n] + p.directoryEnd
			wantShifted(t, p, n)
			p = take(r)
			last := &p.entries[i]
			whole := last.tag + last.size + last.place
			last.tag, last.size, last.place = whole[:n], "", ""
			wantShifted(t, p, n-12)
		}
	}
	p := take(book())
	for _, end := range []string{"", "\x1e\x1e", "\x1d", "\x1f", " ", "x", "\x1e\x1d"} {
		p.directoryEnd = end
		wantRead(t, p.form())
		wantShifted(t, p, len(end)-1)
	}
}

// wantShifted checks a form whose directory has some bytes more, or fewer, than it should, if its base address and its size fit and if they do not.
func wantShifted(t *testing.T, p parts, by int) {
	t.Helper()
	if by == 0 && p.form() == p.fitted() {
		return
	}
	wantDecode(t, p.form(), api.Record{})
	p.base = fmt.Sprintf("%05d", asNumber(p.base)+by)
	wantDecode(t, p.form(), api.Record{})
	p.size = fmt.Sprintf("%05d", asNumber(p.size)+by)
	wantDecode(t, p.form(), api.Record{})
}

// P10.2: numbers that have a sign, a blank, a letter or another digit in the place of a digit, or are too short or too long.
func TestDecodeDigits(t *testing.T) {
	r := book(times(3)...)
	r.ID = 12
	r.Fields[1].Auth = 34
	whole := bytesOf(r)
	base := asNumber(whole[11:16])
	second := base + asNumber(whole[24+12+7:24+12+12])
	for _, at := range [][2]int{{0, 5}, {7, 8}, {11, 16}, {16, 20}, {27, 31}, {31, 36}, {39, 43}, {43, 48}, {second + 2, second + 6}} {
		number := whole[at[0]:at[1]]
		asNumber(number)
		bare := strings.TrimLeft(number[:len(number)-1], "0") + number[len(number)-1:]
		width := len(number)
		for _, x := range []string{"+" + number[1:], "-" + number[1:], " " + number[1:], number[1:] + " ", fmt.Sprintf("%*s", width, bare), fmt.Sprintf("%-*s", width, bare),
			fmt.Sprintf("%*s", width, "+"+bare), "0x" + number[min(2, width):], "0_" + number[min(2, width):], strings.ReplaceAll(number, "0", "O"), strings.Replace(number, "0", "o", 1),
			strings.Repeat("x", width), strings.Repeat(" ", width), strings.Repeat("٣", width)[:width], strings.Repeat("-", width), strings.Repeat("\x00", width), bare, "0" + number, number[1:], ""} {
			if x != number {
				wantDecode(t, whole[:at[0]]+x+whole[at[1]:], api.Record{})
			}
		}
	}
}

// P10.2: every byte as the letter of the kind, the letter n, the version, and within 4500.
func TestDecodeLetters(t *testing.T) {
	for c := range 256 {
		x := string([]byte{byte(c)})
		r := dogs()
		p := take(r)
		p.kind = x
		if r.Kind = strings.Index("\x00bsmd", x); r.Kind < 1 {
			r = api.Record{}
		}
		wantDecode(t, p.form(), r)
		r = dogs()
		p = take(r)
		p.version = x
		if r.Version = strings.Index("\x00123", x); r.Version < 1 {
			r = api.Record{}
		}
		wantDecode(t, p.form(), r)
		for i := range 5 {
			p = take(dogs())
			whole := []byte(p.letter + p.end)
			if whole[i] == byte(c) {
				continue
			}
			whole[i] = byte(c)
			p.letter, p.end = string(whole[:1]), string(whole[1:])
			wantDecode(t, p.form(), api.Record{})
		}
	}
}

// P10.2: forms that are well formed, whose records are not valid, and some whose records are.
func TestDecodeWrong(t *testing.T) {
	for _, x := range wrongForms() {
		wantDecode(t, x, api.Record{})
	}
	most := strings.Repeat("\x1fax", 16)
	for _, content := range []string{"  0000" + most + endField, "990000" + "\x1f9" + long(200, "") + endField, " 19999" + "\x1fa~" + endField, "  0000" + "\x1faa" + "\x1faa" + endField} {
		if s := contentForm("010", content); !decodes(s) {
			t.Errorf("Decode of %q is an error", short(s))
		}
	}
}

// decodes reports whether there is a record whose bytes s is, by Decode and by the definition.
func decodes(s string) bool {
	_, err := Decode(s)
	_, ok := recordOf(s)
	return err == api.OK && ok
}

// contentForm returns a form with one field, which has a tag and a content.
func contentForm(tag, content string) string {
	p := take(book())
	p.entries = []entry{{tag: tag, content: content}}
	return p.fitted()
}

// wrongForms returns forms whose numbers agree with their parts, of which no record has such bytes.
func wrongForms() []string {
	var list []string
	for _, tag := range []string{"000", "001", "009", "24a", "a45", "2 5", "   ", "-45", "+45", "é1", "\x1e45", "24\x1d", "ABC"} {
		list = append(list, contentForm(tag, " 00000\x1fax\x1e"))
	}
	for _, content := range []string{
		"", "\x1e", " ", "  ", "  \x1e", "  0000", "  0000\x1e", "  0000x\x1e", "  0000 \x1e", "  0000\x1f\x1e", "  0000\x1fa\x1e", "  0000\x1fa\x1f\x1e", "  0000\x1fa\x1fbx\x1e", "  0000\x1fax\x1f\x1e",
		"  0000\x1fax\x1fb\x1e", "  0000\x1f\x1fax\x1e", "  0000x\x1fax\x1e", "  0000 \x1fax\x1e", "  0000\x1eax\x1e", "  0000\x1dax\x1e", "  0000$ax\x1e",
		"  0000\x1fax", "  0000\x1fax\x1d", "  0000\x1fax\x1f", "  0000\x1fax\x1e\x1e", "  0000\x1fax\x1ey", "  0000\x1fax\x1e  0000\x1fax\x1e",
		"  0000\x1fax\x1ey\x1e", "  0000\x1fax\x1dy\x1e", "  0000\x1fax\x1fy\x1e", "  0000\x1fax\x1d\x1e", "  0000\x1fax\x1cy\x1e", "  0000\x1fax\ny\x1e", "  0000\x1fax\x7fy\x1e", "  0000\x1fax\u0080\x1e", "  0000\x1fax\u009f\x1e",
		"  0000\x1fa\U00010000\x1e", "  0000\x1fa\xff\x1e", "  0000\x1fa\xc3\x1e", "  0000\x1fa\xed\xa0\x80\x1e", "  0000\x1fa\xc0\x80\x1e", "  0000\x1fa\xe2\x82\x1e", "  0000\x1fax\x00\x1e",
		"  0000\x1fAx\x1e", "  0000\x1f x\x1e", "  0000\x1f$x\x1e", "  0000\x1féx\x1e", "  0000\x1f\x7fx\x1e", "  0000\x1f`x\x1e", "  0000\x1f{x\x1e", "  0000\x1f/x\x1e", "  0000\x1f:x\x1e",
		"# 0000\x1fax\x1e", " #0000\x1fax\x1e", "a 0000\x1fax\x1e", " -0000\x1fax\x1e", "\u00a00000\x1fax\x1e", "é0000\x1fax\x1e", " /0000\x1fax\x1e", " :0000\x1fax\x1e", "\x1e\x1e0000\x1fax\x1e",
		" 0000\x1fax\x1e", "   0000\x1fax\x1e", "  000\x1fax\x1e", "  00000\x1fax\x1e", "  -001\x1fax\x1e", "  +001\x1fax\x1e", "     1\x1fax\x1e", "  1   \x1fax\x1e", "  000a\x1fax\x1e", "  \x1e000\x1fax\x1e",
		"  0000\x1fa" + strings.Repeat("x", 201) + "\x1e", "  0000\x1fa" + strings.Repeat("é", 101) + "\x1e", "  0000" + strings.Repeat("\x1fax", 17) + "\x1e", "  0000\x1fa" + strings.Repeat("x", 5000) + "\x1e",
		"  0000" + strings.Repeat("\x1fax", 1000) + "\x1e",
	} {
		list = append(list, contentForm("245", content))
	}
	for _, lang := range []string{"", "e", "en", "engl", "ENG", "En ", "e g", "123", "éa", "中", "en\x1e", "\x1d\x1e\x1f", "eng0", "e\xffg", "   "} {
		p := take(dogs())
		p.lang = lang
		list = append(list, p.form())
		p.size = fmt.Sprintf("%05d", len(p.form()))
		list = append(list, p.form())
		p.base = fmt.Sprintf("%05d", 34+len(lang))
		list = append(list, p.form())
	}
	many := take(book(times(64)...))
	many.entries = append(many.entries, many.entries[0])
	list = append(list, many.fitted())
	many.entries = slices.Repeat(many.entries[:1], 200)
	return append(list, many.fitted())
}

// P10.2, P10.7: a form that has more bytes than a record can have is none, even if all its parts agree.
func TestDecodeLong(t *testing.T) {
	for n := 9998; n <= 10002; n++ {
		s := bytesOf(sized(n))
		if len(s) != n || record.Right(sized(n)) != api.OK {
			t.Fatalf("the record has %d bytes, not %d", len(s), n)
		}
		if n <= 9999 {
			wantDecode(t, s, sized(n))
		} else {
			wantDecode(t, s, api.Record{})
		}
	}
	most := slices.Repeat([]api.Sub{sub('a', strings.Repeat("x", 200))}, 16)
	wantDecode(t, bytesOf(book(slices.Repeat([]api.Field{with("245", most...)}, 30)...)), api.Record{})
}

// P10.2: texts of 0 to 30 bytes of every kind.
func TestDecodeTexts(t *testing.T) {
	for n := range 31 {
		for c := range 256 {
			wantDecode(t, strings.Repeat(string([]byte{byte(c)}), n), api.Record{})
			wantDecode(t, (fmt.Sprintf("%05d", n) + strings.Repeat(string([]byte{byte(c)}), n))[:n], api.Record{})
		}
		wantDecode(t, dogsForm[:n], api.Record{})
		wantDecode(t, strings.Repeat(endField+endRecord, 20)[:n], api.Record{})
	}
	random := rand.New(rand.NewSource(104))
	marks := "00000123459abnsmdeng \x1d\x1e\x1f"
	for range 200000 {
		b := make([]byte, random.Intn(31))
		for i := range b {
			if b[i] = byte(random.Intn(256)); random.Intn(4) > 0 {
				b[i] = marks[random.Intn(len(marks))]
			}
		}
		wantRead(t, string(b))
		// The beginning of a form, and something else behind it.
		n := random.Intn(len(dogsForm))
		wantRead(t, dogsForm[:n]+string(b))
	}
}

// P10.2: a wrong form leaves nothing for the next call, and a record that was returned belongs to the caller.
func TestDecodeKept(t *testing.T) {
	wrong := append(wrongForms(), "", "x", dogsForm[:50], dogsForm[:30])
	for i, r := range someRecords() {
		s := bytesOf(r)
		first, err := Decode(s)
		wantDecode(t, wrong[i%len(wrong)], api.Record{})
		second, _ := Decode(s)
		if err != api.OK || !equal(first, r) || !equal(second, r) {
			t.Errorf("Decode a second time is %s, not %s", shown(second), shown(r))
		}
		spoil(first)
		if !equal(second, r) {
			t.Errorf("two records that Decode returned share their lists, %s", shown(r))
		}
		wantDecode(t, s, r)
		for i := range second.Fields {
			_ = append(second.Fields[i].Subs, sub('!', "!"))
		}
		if !equal(second, r) {
			t.Errorf("the lists of one record share their memory, %s", shown(r))
		}
	}
}
