package record

import (
	"fmt"
	"math"
	"math/rand"
	"slices"
	"strings"
	"testing"

	"library/api"
	"library/field"
)

// far are numbers that are far from all limits; those near 2^32 and 2^63 are near again if they wrap around.
var far = []int{
	math.MinInt, math.MinInt + 1, math.MinInt + 2, math.MinInt + 3, math.MinInt32, -1 << 32, -1<<32 + 1, -10000, -9999, -256, -255, -100, -2, 10001, 19999, 65536, 65537,
	math.MaxInt32, math.MaxInt32 + 1, 1 << 32, 1<<32 + 1, 1<<32 + 2, 1<<32 + 9999, math.MaxInt - 1, math.MaxInt,
}

// sub returns a subfield.
func sub(code byte, value string) api.Sub { return api.Sub{Code: code, Value: value} }

// with returns a field with a tag.
func with(tag string, subs ...api.Sub) api.Field {
	return api.Field{Tag: tag, Ind: " 0", Subs: subs}
}

// book returns a record that is valid if its fields are.
func book(fields ...api.Field) api.Record {
	return api.Record{ID: 1, Version: 3, Kind: api.KdBook, Lang: "eng", Fields: fields}
}

// tagged returns a field that tells by its value which one it is.
func tagged(tag string, n int) api.Field {
	return with(tag, sub('a', fmt.Sprintf("field %d", n)))
}

// times returns n fields.
func times(n int) []api.Field {
	var list []api.Field
	for i := range n {
		list = append(list, tagged("650", i))
	}
	return list
}

// dogs returns the record of the chapter's examples.
func dogs() api.Record {
	return book(
		api.Field{Tag: "245", Ind: "10", Subs: []api.Sub{sub('a', "Dogs :"), sub('b', "a guide")}},
		api.Field{Tag: "100", Ind: "1 ", Subs: []api.Sub{sub('a', "Smith, Ann")}},
		api.Field{Tag: "264", Ind: " 1", Subs: []api.Sub{sub('a', "London"), sub('c', "[c1998, 1999]")}},
		api.Field{Tag: "650", Ind: " 0", Subs: []api.Sub{sub('a', "Dogs"), sub('x', "History")}},
	)
}

// shownField shows all parts of a field; it does not tell apart nil and empty lists.
func shownField(f api.Field) string {
	return fmt.Sprintf("tag %q, indicators %q, subfields %q, authority %d", f.Tag, f.Ind, f.Subs, f.Auth)
}

// shownFields shows all parts of fields.
func shownFields(list []api.Field) string {
	var b strings.Builder
	for _, f := range list {
		b.WriteString("{" + shownField(f) + "}")
	}
	return b.String()
}

// shown shows all parts of a record.
func shown(r api.Record) string {
	return fmt.Sprintf("record %d, version %d, kind %d, language %q, %d fields %s", r.ID, r.Version, r.Kind, r.Lang, len(r.Fields), shownFields(r.Fields))
}

// short shortens what is shown.
func short(s string) string {
	if len(s) > 400 {
		return s[:400] + fmt.Sprintf(".. (%d bytes)", len(s))
	}
	return s
}

// roomy returns the same record in new memory: its lists have room behind their ends, in which something stands.
func roomy(r api.Record) api.Record {
	fields := make([]api.Field, 0, len(r.Fields)+3)
	for _, f := range r.Fields {
		subs := append(make([]api.Sub, 0, len(f.Subs)+3), f.Subs...)
		copy(subs[len(subs):cap(subs)], []api.Sub{sub('r', "room"), sub('o', "o"), sub('m', "m")})
		f.Subs = subs
		fields = append(fields, f)
	}
	copy(fields[len(fields):cap(fields)], times(3))
	r.Fields = fields
	return r
}

// equal reports whether all parts of two records are equal; nil and empty lists are.
func equal(a, b api.Record) bool {
	return a.ID == b.ID && a.Version == b.Version && a.Kind == b.Kind && a.Lang == b.Lang && equalFields(a.Fields, b.Fields)
}

// equalFields reports whether all parts of two lists of fields are equal.
func equalFields(a, b []api.Field) bool {
	return slices.EqualFunc(a, b, func(f, g api.Field) bool {
		return f.Tag == g.Tag && f.Ind == g.Ind && f.Auth == g.Auth && slices.Equal(f.Subs, g.Subs)
	})
}

// whole returns a copy of a record, and of all that stands behind the ends of its lists.
func whole(r api.Record) (api.Record, []api.Field) {
	fields := slices.Clone(r.Fields)
	var room []api.Field
	for i, f := range r.Fields[:cap(r.Fields)] {
		if i < len(fields) {
			fields[i].Subs = slices.Clone(f.Subs)
		}
		f.Subs = slices.Clone(f.Subs[:cap(f.Subs)])
		room = append(room, f)
	}
	r.Fields = fields
	return r, room
}

// keeper returns what reports whether a record is still as it was, with all that stands behind the ends of its lists.
func keeper(r api.Record) func() bool {
	before, room := whole(r)
	return func() bool {
		now, roomNow := whole(r)
		return equal(now, before) && equalFields(roomNow, room)
	}
}

// calls are all functions that take a record, with a name.
var calls = []struct {
	name string
	call func(r api.Record)
}{
	{"Right", func(r api.Record) { Right(r) }},
	{"Same", func(r api.Record) { Same(r, r); Same(r, dogs()); Same(dogs(), r) }},
	{"Fields", func(r api.Record) { Fields(r, ""); Fields(r, "6"); Fields(r, "65"); Fields(r, "650") }},
	{"Insert", func(r api.Record) {
		for _, i := range append(far, -1, 0, 1, 2, len(r.Fields)/2, len(r.Fields)-1, len(r.Fields), len(r.Fields)+1) {
			Insert(r, i, tagged("245", 1))
			Insert(r, i, api.Field{})
		}
	}},
	{"Remove", func(r api.Record) {
		for _, i := range append(far, -1, 0, 1, 2, len(r.Fields)/2, len(r.Fields)-1, len(r.Fields), len(r.Fields)+1) {
			Remove(r, i)
		}
	}},
	{"Sorted", func(r api.Record) { Sorted(r) }},
	{"Title", func(r api.Record) { Title(r) }},
	{"Author", func(r api.Record) { Author(r) }},
	{"Year", func(r api.Record) { Year(r) }},
	{"Subjects", func(r api.Record) { Subjects(r) }},
}

// The chapter's examples.
func TestExamples(t *testing.T) {
	r := dogs()
	wantRight(t, r, api.OK)
	if got := Title(r); got != "Dogs : a guide" {
		t.Errorf("Title is %q", got)
	}
	if got := Author(r); got != "Smith, Ann" {
		t.Errorf("Author is %q", got)
	}
	if got := Year(r); got != 1998 {
		t.Errorf("Year is %d", got)
	}
	if got := Subjects(r); len(got) != 1 || got[0] != "Dogs--History" {
		t.Errorf("Subjects is %q", got)
	}
	if got := Fields(r, "2"); shownFields(got) != shownFields([]api.Field{r.Fields[0], r.Fields[2]}) {
		t.Errorf("Fields is %s", shownFields(got))
	}
	if got := tags(Sorted(r)); got != "100 245 264 650" {
		t.Errorf("the tags of Sorted are %s", got)
	}
	if got, err := Insert(r, 5, tagged("500", 1)); err != api.ErrRange || shown(got) != shown(api.Record{}) {
		t.Errorf("Insert at 5 is %s, error %d", shown(got), int(err))
	}
	if got, err := Remove(r, 4); err != api.ErrRange || shown(got) != shown(api.Record{}) {
		t.Errorf("Remove of 4 is %s, error %d", shown(got), int(err))
	}
	r.Fields[2].Subs[1].Value = "c11998"
	if got := Year(r); got != 0 {
		t.Errorf("Year of c11998 is %d", got)
	}
}

// tags returns the tags of a record.
func tags(r api.Record) string {
	var list []string
	for _, f := range r.Fields {
		list = append(list, f.Tag)
	}
	return strings.Join(list, " ")
}

// wantRight compares Right with what it must return.
func wantRight(t *testing.T, r api.Record, want api.Errno) {
	t.Helper()
	if got := Right(r); got != want {
		t.Errorf("Right is %d, not %d: %s", int(got), int(want), short(shown(r)))
	}
}

// P8.1: numbers near the limits of ID, Version and Kind, and far from them.
func TestRightNumbers(t *testing.T) {
	near := slices.Clone(far)
	for n := -300; n <= 10300; n++ {
		near = append(near, n)
	}
	for _, n := range near {
		for _, part := range []struct {
			set     func(r *api.Record)
			is      bool
			because api.Errno
		}{
			{func(r *api.Record) { r.ID = n }, 0 <= n && n <= 9999, api.ErrRange},
			{func(r *api.Record) { r.Version = n }, 1 <= n && n <= 3, api.ErrVersion},
			{func(r *api.Record) { r.Kind = n }, 1 <= n && n <= 4, api.ErrArg},
		} {
			r := dogs()
			part.set(&r)
			if part.is {
				wantRight(t, r, api.OK)
			} else {
				wantRight(t, r, part.because)
			}
		}
	}
}

// P8.1: all versions with all kinds and some IDs are valid.
func TestRightChoices(t *testing.T) {
	for _, id := range []int{0, 1, 2, 64, 5000, api.MaxID - 1, api.MaxID} {
		for _, version := range []int{1, 2, 3} {
			for _, kind := range []int{api.KdBook, api.KdSerial, api.KdMap, api.KdDigital} {
				for _, lang := range []string{"eng", "ger", "fre", "spa", "aaa", "zzz", "abc", "xyz", "und"} {
					wantRight(t, api.Record{ID: id, Version: version, Kind: kind, Lang: lang, Fields: times(2)}, api.OK)
				}
			}
		}
	}
}

// P8.1: languages of other lengths, and with characters that are no small letters.
func TestRightLang(t *testing.T) {
	for _, base := range []string{"eng", "aaa", "zzz", "amz"} {
		for i := range 3 {
			for c := range 256 {
				lang := []byte(base)
				lang[i] = byte(c)
				r := dogs()
				r.Lang = string(lang)
				want := api.ErrForm
				if 'a' <= c && c <= 'z' {
					want = api.OK
				}
				wantRight(t, r, want)
			}
		}
	}
	for a := 'a'; a <= 'z'; a++ {
		for b := 'a'; b <= 'z'; b++ {
			for c := 'a'; c <= 'z'; c++ {
				r := dogs()
				r.Lang = string([]rune{a, b, c})
				wantRight(t, r, api.OK)
			}
		}
	}
	for _, lang := range []string{
		"", "e", "en", "engl", "english", "en-GB", "aaaaaa", " eng", "eng ", "e ng", "en ", " en", "   ", "ENG", "Eng", "eNg", "enG", "e1g", "123", "eng\x00", "eng\n",
		"\u00e9", "\u00e9n", "e\u00e9", "\u00e9ng", "en\u00e9", "e\u00e9g", "\u00e9\u00e9\u00e9", "\u65e5", "\uff45\uff4e\uff47", "\uff45", "\u0430\u0431\u0432", "\U0001d41e", "\xff\xff\xff", "en\xff", "\xffen", "\xe9ng",
		strings.Repeat("eng", 100), strings.Repeat("x", 259), strings.Repeat("a", 1<<16+3),
	} {
		r := dogs()
		r.Lang = lang
		wantRight(t, r, api.ErrForm)
	}
}

// P8.1: no fields, up to MaxFields, and more.
func TestRightCount(t *testing.T) {
	wantRight(t, book(), api.OK)
	r := book()
	r.Fields = []api.Field{}
	wantRight(t, r, api.OK)
	r.Fields = times(5)[:0]
	wantRight(t, r, api.OK)
	for n := 1; n <= 64; n++ {
		wantRight(t, book(times(n)...), api.OK)
	}
	for _, n := range []int{65, 66, 127, 128, 255, 256, 257, 320, 65536, 65537} {
		wantRight(t, book(times(n)...), api.ErrLong)
	}
}

// wrongFields returns fields that are not valid, of each error and for each reason.
func wrongFields() []api.Field {
	change := func(set func(f *api.Field)) api.Field {
		f := api.Field{Tag: "650", Ind: " 0", Subs: []api.Sub{sub('a', "x"), sub('b', "y")}, Auth: 3}
		set(&f)
		return f
	}
	return []api.Field{
		{}, {Tag: "650"}, {Tag: "650", Ind: " 0"},
		change(func(f *api.Field) { f.Tag = "009" }), change(func(f *api.Field) { f.Tag = "6500" }), change(func(f *api.Field) { f.Tag = "" }),
		change(func(f *api.Field) { f.Ind = "#0" }), change(func(f *api.Field) { f.Ind = "" }),
		change(func(f *api.Field) { f.Subs = nil }), change(func(f *api.Field) { f.Subs = []api.Sub{} }),
		change(func(f *api.Field) { f.Subs = slices.Repeat(f.Subs[:1], 17) }),
		change(func(f *api.Field) { f.Subs[0].Code = 'A' }), change(func(f *api.Field) { f.Subs[1].Code = 0 }),
		change(func(f *api.Field) { f.Subs[0].Value = "" }), change(func(f *api.Field) { f.Subs[1].Value = "" }),
		change(func(f *api.Field) { f.Subs[0].Value = "\n" }), change(func(f *api.Field) { f.Subs[1].Value = "\xff" }),
		change(func(f *api.Field) { f.Subs[1].Value = strings.Repeat("x", 201) }),
		change(func(f *api.Field) { f.Auth = -1 }), change(func(f *api.Field) { f.Auth = 10000 }),
	}
}

// P8.1: each error of a field, at each place, among fields that are valid.
func TestRightFields(t *testing.T) {
	seen := map[api.Errno]bool{}
	for _, wrong := range wrongFields() {
		want := field.Right(wrong)
		seen[want] = true
		wantRight(t, book(wrong), want)
		for i := range 64 {
			list := times(64)
			list[i] = wrong
			wantRight(t, book(list...), want)
			wantRight(t, book(list[:i+1]...), want)
			wantRight(t, book(list[:i]...), api.OK)
			wantRight(t, book(list[i:]...), want)
		}
	}
	for _, err := range []api.Errno{api.ErrTag, api.ErrForm, api.ErrMissing, api.ErrLong, api.ErrArg, api.ErrRange} {
		if !seen[err] {
			t.Errorf("no field has the error %d", int(err))
		}
	}
}

// P8.1: of two fields with errors the first one counts, whichever errors they are.
func TestRightFieldOrder(t *testing.T) {
	for _, a := range wrongFields() {
		for _, b := range wrongFields() {
			for _, at := range [][2]int{{0, 1}, {0, 63}, {1, 2}, {3, 40}, {62, 63}} {
				list := times(64)
				list[at[0]], list[at[1]] = a, b
				wantRight(t, book(list...), field.Right(a))
			}
			wantRight(t, book(a, b), field.Right(a))
		}
	}
}

// P8.1: every choice of right and wrong parts; the first wrong one counts.
func TestRightOrder(t *testing.T) {
	type part struct {
		set  func(r *api.Record)
		want api.Errno
	}
	number := func(set func(r *api.Record, n int), want api.Errno, list ...int) []part {
		parts := []part{{func(*api.Record) {}, api.OK}}
		for _, n := range list {
			parts = append(parts, part{func(r *api.Record) { set(r, n) }, want})
		}
		return parts
	}
	ids := number(func(r *api.Record, n int) { r.ID = n }, api.ErrRange, -1, 10000, math.MinInt, math.MaxInt)
	versions := number(func(r *api.Record, n int) { r.Version = n }, api.ErrVersion, 0, 4, math.MinInt, math.MaxInt)
	kinds := number(func(r *api.Record, n int) { r.Kind = n }, api.ErrArg, 0, 5, math.MinInt, math.MaxInt)
	langs := []part{{func(*api.Record) {}, api.OK}}
	for _, lang := range []string{"", "en", "engl", "En1", "\u00e9"} {
		langs = append(langs, part{func(r *api.Record) { r.Lang = lang }, api.ErrForm})
	}
	lists := []part{{func(*api.Record) {}, api.OK}, {func(r *api.Record) { r.Fields = nil }, api.OK}, {func(r *api.Record) { r.Fields = times(65) }, api.ErrLong}}
	for _, f := range wrongFields() {
		lists = append(lists,
			part{func(r *api.Record) { r.Fields = append(times(2), f) }, field.Right(f)},
			part{func(r *api.Record) { r.Fields = append([]api.Field{f}, times(63)...) }, field.Right(f)},
			part{func(r *api.Record) { r.Fields = append([]api.Field{f}, times(64)...) }, api.ErrLong},
			part{func(r *api.Record) { r.Fields = append(times(64), f) }, api.ErrLong})
	}
	for _, id := range ids {
		for _, version := range versions {
			for _, kind := range kinds {
				for _, lang := range langs {
					for _, list := range lists {
						r, want := dogs(), api.OK
						for _, p := range []part{list, lang, kind, version, id} {
							p.set(&r)
							if p.want != api.OK {
								want = p.want
							}
						}
						wantRight(t, r, want)
					}
				}
			}
		}
	}
}

// alikeFields returns lists of fields of which each differs from another one in the order or the number of its fields, or in one part of one field or subfield.
func alikeFields() [][]api.Field {
	field := func(tag, ind string, auth int, subs ...api.Sub) api.Field {
		return api.Field{Tag: tag, Ind: ind, Subs: subs, Auth: auth}
	}
	a, b, c := field("245", "10", 0, sub('a', "Dogs"), sub('b', "x")), field("650", " 0", 3, sub('a', "Dogs")), field("500", "  ", 0, sub('a', "Note"))
	lists := [][]api.Field{
		nil, {a}, {b}, {c}, {a, b}, {b, a}, {a, a}, {b, b}, {a, b, c}, {a, c, b}, {b, a, c}, {b, c, a}, {c, a, b}, {c, b, a}, {a, a, b}, {a, b, a}, {b, a, a}, {a, b, b},
		{{}}, {{}, {}}, {a, {}}, {{}, a}, {a, b, {}}, {a, b, c, a}, {a, b, c, c}, {{Subs: []api.Sub{{}}}},
		times(63), times(64), times(65), append(times(63), a), append([]api.Field{a}, times(63)...),
	}
	for _, other := range []api.Field{
		field("246", "10", 0, sub('a', "Dogs"), sub('b', "x")), field("24", "10", 0, sub('a', "Dogs"), sub('b', "x")), field("245", "11", 0, sub('a', "Dogs"), sub('b', "x")),
		field("245", "1", 0, sub('a', "Dogs"), sub('b', "x")), field("245", "10", 1, sub('a', "Dogs"), sub('b', "x")), field("245", "10", -1, sub('a', "Dogs"), sub('b', "x")),
		field("245", "10", 0), field("245", "10", 0, sub('a', "Dogs")), field("245", "10", 0, sub('b', "x")), field("245", "10", 0, sub('b', "x"), sub('a', "Dogs")),
		field("245", "10", 0, sub('c', "Dogs"), sub('b', "x")), field("245", "10", 0, sub('a', "Dogs"), sub('c', "x")), field("245", "10", 0, sub('a', "dogs"), sub('b', "x")),
		field("245", "10", 0, sub('a', "Dogs"), sub('b', "")), field("245", "10", 0, sub('a', "Dogs"), sub('b', "x"), sub('b', "x")), field("245", "10", 0, sub('b', "Dogs"), sub('a', "x")),
	} {
		lists = append(lists, []api.Field{other}, []api.Field{other, b}, []api.Field{b, other}, []api.Field{c, other, b}, []api.Field{other, a}, []api.Field{a, other})
	}
	return lists
}

// alike returns records of which each differs from another one in one part alone; some are valid, some are not.
func alike() []api.Record {
	var list []api.Record
	for _, fields := range alikeFields() {
		list = append(list, book(fields...))
	}
	base := dogs()
	list = append(list, base)
	for _, n := range append([]int{-1, 0, 2, 4, 5, 6, 9999, 10000, 1<<32 + 5}, far...) {
		id, version, kind := base, base, base
		// 7, 8 and 9 are numbers that do not occur otherwise, so that no two records are equal.
		id.ID, id.Version = n, 7
		version.Version, version.Kind = n, 8
		kind.Kind, kind.ID = n, 9
		list = append(list, id, version, kind)
	}
	for _, lang := range []string{"", "e", "en", "enh", "fng", "emg", "Eng", "ENG", "engl", "eng ", " eng", "\xff", "\u00e9ng"} {
		r := base
		r.Lang = lang
		list = append(list, r)
	}
	return append(list, api.Record{}, api.Record{ID: 1}, api.Record{Version: 1}, api.Record{Kind: 1}, api.Record{Lang: "1"}, api.Record{ID: 3, Version: 1, Kind: 2}, api.Record{ID: 1, Version: 2, Kind: 3}, api.Record{ID: 2, Version: 3, Kind: 1})
}

// P8.2: records that differ in one part alone, and records that are equal but built anew.
func TestSame(t *testing.T) {
	list, again := unlike(alike()), unlike(alike())
	for i, a := range list {
		for j, b := range again {
			if got := Same(a, b); got != (i == j) {
				t.Errorf("Same is %t: %s and %s", got, short(shown(a)), short(shown(b)))
			}
		}
		if !Same(a, a) || !Same(a, roomy(a)) || !Same(roomy(a), a) {
			t.Errorf("a record is not the same as itself: %s", short(shown(a)))
		}
	}
}

// unlike returns each of several records once.
func unlike(list []api.Record) []api.Record {
	seen := map[string]bool{}
	var once []api.Record
	for _, r := range list {
		if !seen[shown(r)] {
			once = append(once, r)
		}
		seen[shown(r)] = true
	}
	return once
}

// P8.2: each number of one record against each number of another one.
func TestSameNumbers(t *testing.T) {
	list := append([]int{-1, 0, 1, 2, 3, 4, 5, 9998, 9999, 10000}, far...)
	for i, m := range list {
		for j, n := range list {
			for part, set := range []func(r *api.Record, n int){
				func(r *api.Record, n int) { r.ID = n }, func(r *api.Record, n int) { r.Version = n }, func(r *api.Record, n int) { r.Kind = n },
			} {
				a, b := dogs(), dogs()
				set(&a, m)
				set(&b, n)
				if got := Same(a, b); got != (i == j) {
					t.Errorf("Same is %t for %d and %d, part %d", got, m, n, part)
				}
			}
		}
	}
}

// P8.2: nil and empty lists of fields and of subfields.
func TestSameLists(t *testing.T) {
	for _, r := range alike() {
		none, empty := r, r
		none.Fields, empty.Fields = nil, []api.Field{}
		if !Same(none, empty) || !Same(empty, none) || !Same(none, none) || !Same(empty, empty) {
			t.Errorf("nil and empty are different: %s", short(shown(none)))
		}
		if len(r.Fields) > 0 && (Same(r, none) || Same(none, r) || Same(r, empty) || Same(empty, r)) {
			t.Errorf("no fields are the same as some: %s", short(shown(r)))
		}
	}
	none, empty := book(with("245"), with("650", sub('a', "x"))), book(with("245"), with("650", sub('a', "x")))
	none.Fields[0].Subs, empty.Fields[0].Subs = nil, []api.Sub{}
	if !Same(none, empty) || !Same(empty, none) {
		t.Error("nil and empty lists of subfields are different")
	}
}

// P8.2: a part of any field of a long record.
func TestSamePlaces(t *testing.T) {
	for n := 1; n <= 65; n++ {
		for i := range n {
			for part, set := range []func(f *api.Field){
				func(f *api.Field) { f.Tag = "651" }, func(f *api.Field) { f.Ind = "00" }, func(f *api.Field) { f.Auth = 1 }, func(f *api.Field) { f.Subs = nil },
				func(f *api.Field) { f.Subs[0].Code = 'b' }, func(f *api.Field) { f.Subs[0].Value += "x" }, func(f *api.Field) { f.Subs = append(f.Subs, sub('a', "x")) },
			} {
				a, b := book(times(n)...), book(times(n)...)
				if !Same(a, b) {
					t.Fatalf("Same is false for %d fields", n)
				}
				set(&b.Fields[i])
				if Same(a, b) || Same(b, a) {
					t.Errorf("Same is true, field %d of %d, part %d", i, n, part)
				}
			}
		}
	}
}

// P8.3: prefixes of each length that occur never, once and several times.
func TestFields(t *testing.T) {
	r := book(tagged("245", 0), tagged("100", 1), tagged("650", 2), tagged("246", 3), tagged("655", 4), tagged("650", 5), tagged("020", 6), tagged("264", 7), tagged("999", 8))
	for prefix, want := range map[string][]int{
		"": {0, 1, 2, 3, 4, 5, 6, 7, 8}, "2": {0, 3, 7}, "1": {1}, "6": {2, 4, 5}, "0": {6}, "9": {8}, "3": {}, "4": {}, "5": {},
		"24": {0, 3}, "26": {7}, "65": {2, 4, 5}, "10": {1}, "02": {6}, "99": {8}, "45": {}, "00": {}, "50": {}, "25": {}, "64": {},
		"245": {0}, "246": {3}, "650": {2, 5}, "655": {4}, "100": {1}, "020": {6}, "999": {8}, "247": {}, "244": {}, "651": {}, "542": {},
		"2450": {}, "6500": {}, "245 ": {}, "2455": {}, "0245": {}, " ": {}, " 245": {}, "x": {}, "2x": {}, "24x": {}, "\x00": {}, "\xff": {}, "*": {}, "6..": {}, "\u0662": {}, "\uff12": {}, "field": {}, "a": {},
	} {
		got := []string{}
		for _, f := range Fields(r, prefix) {
			got = append(got, shownField(f))
		}
		var list []string
		for _, i := range want {
			list = append(list, shownField(r.Fields[i]))
		}
		if !slices.Equal(got, list) {
			t.Errorf("Fields(%q) is %q, not %q", prefix, got, list)
		}
	}
}

// P8.3: all prefixes of up to four digits, in records with a field of each tag.
func TestFieldsTags(t *testing.T) {
	var list []api.Field
	for n := 10; n < 1000; n++ {
		list = append(list, tagged(fmt.Sprintf("%03d", n), n))
	}
	for at := 0; at < len(list); at += 64 {
		part := list[at:min(at+64, len(list))]
		for digits := range 5 {
			count := 0
			for n := range int(math.Pow10(digits)) {
				prefix := fmt.Sprintf("%0*d", digits, n)[:digits]
				for _, f := range Fields(book(part...), prefix) {
					count++
					if f.Tag[:digits] != prefix {
						t.Errorf("Fields(%q) has the tag %q", prefix, f.Tag)
					}
				}
			}
			// Each tag has one prefix of each length.
			if want := len(part); digits < 4 && count != want || digits == 4 && count != 0 {
				t.Errorf("Fields of prefixes of %d digits are %d, not %d", digits, count, want)
			}
		}
	}
	if got := Fields(book(), ""); len(got) != 0 {
		t.Errorf("Fields of no fields is %s", shownFields(got))
	}
	if got := Fields(api.Record{}, "2"); len(got) != 0 {
		t.Errorf("Fields of the zero record is %s", shownFields(got))
	}
}

// P8.3: what is written into the list that Fields returns does not reach the record.
func TestFieldsList(t *testing.T) {
	for _, prefix := range []string{"", "6", "65", "650", "2"} {
		r := roomy(dogs())
		same := keeper(r)
		got := Fields(r, prefix)
		for i := range got {
			got[i] = api.Field{Tag: "!"}
		}
		_ = append(got, api.Field{Tag: "!"})
		if !same() {
			t.Errorf("Fields(%q) returns the record's list", prefix)
		}
	}
}

// All functions leave the record as it was, with what stands behind the ends of its lists.
func TestKeeps(t *testing.T) {
	records := append(someRecords(), alike()...)
	for _, fields := range [][]api.Field{times(63), times(64), times(65), wrongFields()} {
		records = append(records, book(fields...))
	}
	for _, r := range records {
		given := roomy(r)
		same := keeper(given)
		for _, c := range calls {
			c.call(given)
			if !same() {
				t.Fatalf("%s changes the record: %s", c.name, short(shown(r)))
			}
		}
	}
}

// All functions end without a panic, whatever the record is.
func TestAnyRecord(t *testing.T) {
	random := rand.New(rand.NewSource(80))
	text := func(n int) string {
		b := make([]byte, random.Intn(n))
		random.Read(b)
		return string(b)
	}
	for range 2000 {
		r := api.Record{ID: random.Int() - random.Int(), Version: random.Intn(6) - 1, Kind: random.Int(), Lang: text(6)}
		for range random.Intn(100) {
			f := api.Field{Tag: []string{"", "2", "245", "100", "110", "700", "260", "264", "6", "650", "6500", text(5)}[random.Intn(12)], Ind: text(4), Auth: random.Int()}
			for range random.Intn(30) {
				f.Subs = append(f.Subs, sub("abcxyz\x00\xff"[random.Intn(8)], text(20)))
			}
			r.Fields = append(r.Fields, f)
		}
		for _, c := range calls {
			c.call(r)
		}
	}
	long := book(times(100000)...)
	long.Fields[0] = with("264", sub('c', strings.Repeat("1", 1<<20)), sub('c', strings.Repeat("12345 ", 1<<18)), sub('c', "1998"))
	for _, c := range calls {
		c.call(long)
	}
}

// someTags are the tags of some records, those that matter among them.
var someTags = []string{"010", "020", "100", "100", "110", "245", "245", "246", "260", "264", "500", "600", "650", "650", "699", "700", "856", "999"}

// someRecords returns records that are valid, with no, one and many fields.
func someRecords() []api.Record {
	random := rand.New(rand.NewSource(81))
	list := []api.Record{dogs(), book(), book(times(1)...), book(times(2)...), book(times(3)...), {Version: 1, Kind: 4, Lang: "zzz", Fields: times(7)}}
	for n := range 120 {
		r := api.Record{ID: random.Intn(10000), Version: 1 + random.Intn(3), Kind: 1 + random.Intn(4), Lang: []string{"eng", "ger", "fre", "und"}[random.Intn(4)]}
		for i := range min(n, 64) {
			r.Fields = append(r.Fields, someField(random, i))
		}
		list = append(list, r)
	}
	return list
}

// someField returns a field that is valid; its first value tells which one it is.
func someField(random *rand.Rand, i int) api.Field {
	f := with(someTags[random.Intn(len(someTags))], sub('9', fmt.Sprintf("field %d", i)))
	f.Ind = []string{"  ", "10", " 1"}[random.Intn(3)]
	f.Auth = random.Intn(10000)
	for range random.Intn(16) {
		f.Subs = append(f.Subs, sub("aabbccdxyz0"[random.Intn(11)], []string{"Dogs", " Dogs  and\u00a0cats ", "1998", "c1901-1902", "12345", "$", "--", "\u00e9t\u00e9"}[random.Intn(8)]))
	}
	return f
}
