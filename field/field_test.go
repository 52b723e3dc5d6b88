package field

import (
	"fmt"
	"math"
	"math/rand"
	"regexp"
	"slices"
	"strconv"
	"strings"
	"testing"
	"unicode/utf8"

	"library/api"
)

// The shapes that the document describes.
var (
	tagShape  = regexp.MustCompile(`\A(?:0[1-9]|[1-9][0-9])[0-9]\z`)
	indShape  = regexp.MustCompile(`\A[ 0-9]{2}\z`)
	codeShape = regexp.MustCompile(`\A[a-z0-9]\z`)
	textShape = regexp.MustCompile(`\A[\x{20}-\x{7e}\x{a0}-\x{ffff}]*\z`)
	lineShape = regexp.MustCompile(`\A([^ @]*)(?:@([1-9][0-9]*))? ([^ ]*) ((?:\$[a-z0-9](?:[^$]|\$\$)+)+)\z`)
	subShape  = regexp.MustCompile(`\$([a-z0-9])((?:[^$]|\$\$)+)`)
)

// far are numbers that are far from all IDs; those near 2^32 and 2^63 are near again if they wrap around.
var far = []int{
	math.MinInt, math.MinInt + 1, math.MinInt + 2, math.MinInt32, -1 << 32, -1<<32 + 1, -10000, -9999, -100, -2, 10001, 19999, 65536, 99999,
	math.MaxInt32, math.MaxInt32 + 1, 1 << 32, 1<<32 + 1, 1<<32 + 9999, math.MaxInt - 1, math.MaxInt,
}

// noTexts are strings that are no texts, each for another reason.
var noTexts = []string{
	"\x00", "\t", "\n", "\r", "\x1b", "\x1f", "\x7f", "\u0080", "\u0085", "\u009f", "\U00010000", "\U0001d7d8", "\U0010ffff",
	"\x80", "\xbf", "\xc0\x80", "\xc1\xbf", "\xc3", "\xe2\x82", "\xe0\x9f\xbf", "\xed\xa0\x80", "\xed\xbf\xbf", "\xf0\x90\x80", "\xf4\x90\x80\x80", "\xf8", "\xfe", "\xff", "\xe9",
}

// oddTexts are texts of which some programs take a part for something else.
var oddTexts = []string{
	" ", "  ", "\u00a0", "#", "##", "@", "@3", "@0", "\"", "\\", "\\$", "|a", "=", "0", "245 10 $aDogs", "~", "\u00e9", "\u00c3\u00a9", "\u0100", "\u2028", "\u65e5\u672c", "\uff04", "\ud7ff", "\ue000", "\ufeff", "\ufffd", "\ufffe", "\uffff",
	"$", "$$", "$$$", "$$$$", "$a", "a$", "$$a", "a$$", "a$b", "a$$b", "a$$$b", "$a$", "$ $", " $", "$ ", "$\u00e9$", "x$ay$bz", strings.Repeat("$", 199), strings.Repeat("$", 200), strings.Repeat("a$", 100), strings.Repeat("$a", 100),
}

// sub returns a subfield.
func sub(code byte, value string) api.Sub { return api.Sub{Code: code, Value: value} }

// dogs returns the field of the chapter's examples.
func dogs() api.Field {
	return api.Field{Tag: "245", Ind: "10", Subs: []api.Sub{sub('a', "Dogs"), sub('b', "and $5"), sub('a', "x")}}
}

// with returns a field that is valid if its subfields are.
func with(subs ...api.Sub) api.Field {
	return api.Field{Tag: "650", Ind: " 0", Subs: subs, Auth: 3}
}

// times returns n subfields.
func times(n int) []api.Sub {
	return slices.Repeat([]api.Sub{sub('a', "x")}, n)
}

// shown shows all parts of a field; it does not tell apart nil and empty lists.
func shown(f api.Field) string {
	return fmt.Sprintf("tag %q, indicators %q, subfields %q, authority %d", f.Tag, f.Ind, f.Subs, f.Auth)
}

// equal reports whether all parts of two fields are equal; nil and empty lists are.
func equal(a, b api.Field) bool {
	return a.Tag == b.Tag && a.Ind == b.Ind && a.Auth == b.Auth && slices.Equal(a.Subs, b.Subs)
}

// short shortens what is shown.
func short(s string) string {
	if len(s) > 200 {
		return s[:200] + fmt.Sprintf(".. (%d bytes)", len(s))
	}
	return s
}

// valid reports whether a string is a text.
func valid(s string) bool { return utf8.ValidString(s) && textShape.MatchString(s) }

// rightSubOf returns what the document says of a subfield.
func rightSubOf(s api.Sub) api.Errno {
	switch {
	case !codeShape.Match([]byte{s.Code}):
		return api.ErrArg
	case len(s.Value) == 0:
		return api.ErrMissing
	case !valid(s.Value):
		return api.ErrForm
	case len(s.Value) > 200:
		return api.ErrLong
	}
	return api.OK
}

// rightOf returns what the document says that Right returns.
func rightOf(f api.Field) api.Errno {
	list := []api.Errno{}
	wrong := func(is bool, err api.Errno) {
		if is {
			list = append(list, err)
		}
	}
	wrong(!tagShape.MatchString(f.Tag), api.ErrTag)
	wrong(!indShape.MatchString(f.Ind), api.ErrForm)
	wrong(len(f.Subs) < 1, api.ErrMissing)
	wrong(len(f.Subs) > 16, api.ErrLong)
	for _, s := range f.Subs {
		wrong(rightSubOf(s) != api.OK, rightSubOf(s))
	}
	wrong(f.Auth < 0 || f.Auth > 9999, api.ErrRange)
	return append(list, api.OK)[0]
}

// lineOf returns the line of a field.
func lineOf(f api.Field) string {
	line := f.Tag
	if f.Auth != 0 {
		line += fmt.Sprintf("@%d", f.Auth)
	}
	line += " "
	for _, c := range []byte(f.Ind) {
		if c == 32 {
			c = 35
		}
		line += string([]byte{c})
	}
	line += " "
	for _, s := range f.Subs {
		line += "$" + string([]byte{s.Code}) + strings.Join(strings.Split(s.Value, "$"), "$$")
	}
	return line
}

// parseOf returns the field whose line s is, and whether there is one.
func parseOf(s string) (api.Field, bool) {
	parts := lineShape.FindStringSubmatch(s)
	if parts == nil {
		return api.Field{}, false
	}
	if strings.Contains(parts[3], " ") || len(parts[2]) > 4 {
		return api.Field{}, false
	}
	f := api.Field{Tag: parts[1], Ind: strings.Join(strings.Split(parts[3], "#"), " ")}
	if parts[2] != "" {
		fmt.Sscanf(parts[2], "%d", &f.Auth)
	}
	for _, m := range subShape.FindAllStringSubmatch(parts[4], -1) {
		f.Subs = append(f.Subs, sub(m[1][0], strings.Join(strings.Split(m[2], "$$"), "$")))
	}
	if rightOf(f) != api.OK {
		return api.Field{}, false
	}
	return f, true
}

// wantRight compares Right with what it must return, and Print with the error.
func wantRight(t *testing.T, f api.Field, want api.Errno) {
	t.Helper()
	if got := Right(f); got != want {
		t.Errorf("Right is %d, not %d: %s", int(got), int(want), short(shown(f)))
	}
	line := ""
	if want == api.OK {
		line = lineOf(f)
	}
	if got, err := Print(f); got != line || err != want {
		t.Errorf("Print is %.200q, error %d, not %.200q, error %d: %s", got, int(err), line, int(want), short(shown(f)))
	}
}

// check compares Right and Print with what the document says, and Parse of Print with the field.
func check(t *testing.T, f api.Field) {
	t.Helper()
	want := rightOf(f)
	wantRight(t, f, want)
	if want == api.OK {
		wantParse(t, lineOf(f), f)
	}
}

// wantParse compares Parse with the field that it must return.
func wantParse(t *testing.T, s string, want api.Field) {
	t.Helper()
	if f, err := Parse(s); !equal(f, want) || err != api.OK {
		t.Errorf("Parse(%.200q) is %s, error %d, not %s", s, short(shown(f)), int(err), short(shown(want)))
	}
}

// wantNone checks that Parse returns ErrForm.
func wantNone(t *testing.T, s string) {
	t.Helper()
	if f, err := Parse(s); !equal(f, api.Field{}) || err != api.ErrForm {
		t.Errorf("Parse(%.200q) is %s, error %d, not ErrForm", s, short(shown(f)), int(err))
	}
}

// checkParse compares Parse with what the document says.
func checkParse(t *testing.T, s string) {
	t.Helper()
	if want, ok := parseOf(s); ok {
		wantParse(t, s, want)
	} else {
		wantNone(t, s)
	}
}

// wantGet compares Get with what it must return.
func wantGet(t *testing.T, f api.Field, code byte, want string, wantOk bool) {
	t.Helper()
	if got, ok := Get(f, code); got != want || ok != wantOk {
		t.Errorf("Get(%q) is %.200q, %t, not %.200q, %t: %s", code, got, ok, want, wantOk, short(shown(f)))
	}
}

// wantAll compares All and Plain with what they must return.
func wantAll(t *testing.T, f api.Field, codes string, want ...string) {
	t.Helper()
	if got := All(f, codes); len(got) != len(want) || fmt.Sprintf("%q", got) != fmt.Sprintf("%q", want) {
		t.Errorf("All(%q) is %q, not %q: %s", codes, got, want, short(shown(f)))
	}
	plain := ""
	for i, value := range want {
		if i > 0 {
			plain += " "
		}
		plain += value
	}
	if got := Plain(f, codes); got != plain {
		t.Errorf("Plain(%q) is %.200q, not %.200q: %s", codes, got, plain, short(shown(f)))
	}
}

// wantSet compares Set with what it must return, and checks that the field stays as it was.
func wantSet(t *testing.T, f api.Field, code byte, value string, want api.Field) {
	t.Helper()
	before, room := f, slices.Clone(f.Subs[:cap(f.Subs)])
	before.Subs = slices.Clone(f.Subs)
	got := Set(f, code, value)
	if !equal(got, want) {
		t.Errorf("Set(%q, %.200q) is %s, not %s", code, value, short(shown(got)), short(shown(want)))
	}
	if !equal(f, before) || !slices.Equal(f.Subs[:cap(f.Subs)], room) {
		t.Errorf("Set(%q, %.200q) changes the field: %s", code, value, short(shown(before)))
	}
	// Nor does a change of the result reach the field.
	for i := range got.Subs {
		got.Subs[i] = sub('!', "!")
	}
	got.Subs = append(got.Subs, sub('!', "!"))
	if !equal(f, before) || !slices.Equal(f.Subs[:cap(f.Subs)], room) {
		t.Errorf("Set(%q, %.200q) shares its subfields with the field: %s", code, value, short(shown(before)))
	}
}

// The chapter's examples, and that of the whole document.
func TestExamples(t *testing.T) {
	f := dogs()
	if line, err := Print(f); line != "245 10 $aDogs$band $$5$ax" || err != api.OK {
		t.Errorf("Print is %q, error %d", line, int(err))
	}
	wantParse(t, "245 10 $aDogs$band $$5$ax", f)
	wantGet(t, f, 'a', "Dogs", true)
	wantAll(t, f, "a", "Dogs", "x")
	wantAll(t, f, "ab", "Dogs", "and $5", "x")
	if got := Plain(f, "ab"); got != "Dogs and $5 x" {
		t.Errorf("Plain is %q", got)
	}
	wantSet(t, f, 'a', "", api.Field{Tag: "245", Ind: "10", Subs: []api.Sub{sub('b', "and $5")}})
	wantParse(t, "650@3 #0 $aDogs", api.Field{Tag: "650", Ind: " 0", Subs: []api.Sub{sub('a', "Dogs")}, Auth: 3})
	f.Tag = "009"
	wantRight(t, f, api.ErrTag)
	wantNone(t, "245 10 $a")
	wantParse(t, "245 10 $aDogs", api.Field{Tag: "245", Ind: "10", Subs: []api.Sub{sub('a', "Dogs")}})
}

// P7.1: every number of three digits, also with fewer and more of them.
func TestRightTag(t *testing.T) {
	for n := range 1000 {
		f := dogs()
		f.Tag = fmt.Sprintf("%03d", n)
		want := api.OK
		if n < 10 {
			want = api.ErrTag
		}
		wantRight(t, f, want)
		for _, tag := range []string{f.Tag + "0", "0" + f.Tag, f.Tag + " ", " " + f.Tag, "+" + f.Tag, f.Tag + "\n", f.Tag + "\x00", f.Tag + "\u0660", f.Tag[:2], f.Tag[1:], f.Tag[:1], ""} {
			f.Tag = tag
			wantRight(t, f, api.ErrTag)
		}
	}
}

// P7.1: every byte at every place of a tag, and characters of several bytes.
func TestRightTagBytes(t *testing.T) {
	for _, base := range []string{"245", "010", "999", "100"} {
		for i := range 3 {
			for c := range 256 {
				tag := []byte(base)
				tag[i] = byte(c)
				f := dogs()
				f.Tag = string(tag)
				check(t, f)
			}
		}
	}
	for _, tag := range []string{
		"\u00e9", "\u00e95", "2\u00e9", "\u06624", "2\u0664", "\uff12", "\u65e5", "\uff12\uff14\uff15", "\u0662\u0664\u0665", "\U0001d7d0", "24\u0665", "\u066245", "\u00b2\u00b3", "2\u00b2", "24\u00b2",
		"-10", "+10", "1e2", "0x1", "1.0", "9_9", " 10", "10 ", "1 0", "   ", "2a5", "LDR", "\xff\xff\xff",
	} {
		f := dogs()
		f.Tag = tag
		wantRight(t, f, api.ErrTag)
	}
}

// P7.1: every byte, at both places of the indicators, and other lengths.
func TestRightInd(t *testing.T) {
	for a := range 256 {
		for b := range 256 {
			f := dogs()
			f.Ind = string([]byte{byte(a), byte(b)})
			want := api.ErrForm
			if strings.IndexByte(" 0123456789", byte(a)) >= 0 && strings.IndexByte(" 0123456789", byte(b)) >= 0 {
				want = api.OK
			}
			wantRight(t, f, want)
		}
	}
	for _, ind := range []string{
		"", " ", "0", "1", "9", "   ", "000", "10 ", " 10", "1 0", "    ", "1234", "\u00e9", "1\u00e9", "\u00a0", "\u00a01", "\u00a0\u00a0", "\u0661", "\u06610", "\uff11", "\uff11\uff10",
		"##", "#", "-1", "+1", "\t1", "1\n", "10\n", "\n10", "\x0010", strings.Repeat(" ", 1000), strings.Repeat("1", 1000),
	} {
		f := dogs()
		f.Ind = ind
		wantRight(t, f, api.ErrForm)
	}
}

// P7.1: no subfields, one to MaxSubs, and more.
func TestRightSubs(t *testing.T) {
	wantRight(t, api.Field{Tag: "245", Ind: "10"}, api.ErrMissing)
	wantRight(t, api.Field{Tag: "245", Ind: "10", Subs: []api.Sub{}}, api.ErrMissing)
	wantRight(t, api.Field{Tag: "245", Ind: "10", Subs: times(5)[:0]}, api.ErrMissing)
	for n := 1; n <= api.MaxSubs; n++ {
		wantRight(t, with(times(n)...), api.OK)
		wantParse(t, "650@3 #0 "+strings.Repeat("$ax", n), with(times(n)...))
	}
	for _, n := range []int{api.MaxSubs + 1, api.MaxSubs + 2, 2 * api.MaxSubs, 255, 256, 257, 65536 + 1} {
		wantRight(t, with(times(n)...), api.ErrLong)
	}
}

// P7.1: every byte as a code, in the first, a middle and the last subfield.
func TestRightCode(t *testing.T) {
	for c := range 256 {
		want := api.ErrArg
		if 'a' <= c && c <= 'z' || '0' <= c && c <= '9' {
			want = api.OK
		}
		for i := range api.MaxSubs {
			subs := times(api.MaxSubs)
			subs[i].Code = byte(c)
			wantRight(t, with(subs...), want)
			wantRight(t, with(subs[i]), want)
		}
	}
}

// P7.1: values of every length near MaxValue, which counts bytes.
func TestRightValueLength(t *testing.T) {
	for _, c := range []string{"x", "$", " ", "\u00e9", "\u20ac", "\uffff"} {
		for n := range 2 * api.MaxValue {
			value := strings.Repeat(c, n/len(c)) + strings.Repeat("y", n%len(c))
			want := api.OK
			switch {
			case n == 0:
				want = api.ErrMissing
			case n > 200:
				want = api.ErrLong
			}
			wantRight(t, with(sub('a', value)), want)
			wantRight(t, with(sub('b', "z"), sub('a', value)), want)
			wantRight(t, with(sub('a', value), sub('b', "z")), want)
		}
	}
	for _, n := range []int{255, 256, 257, 456, 512, 1000, 65536, 65537, 65736} {
		wantRight(t, with(sub('a', strings.Repeat("x", n))), api.ErrLong)
	}
}

// P7.1: every byte and every character alone and among others, and strings that are no texts for each reason.
func TestRightValueText(t *testing.T) {
	for c := range 256 {
		for _, value := range []string{string([]byte{byte(c)}), "x" + string([]byte{byte(c)}), string([]byte{byte(c)}) + "x"} {
			want := api.ErrForm
			if 0x20 <= c && c <= 0x7e {
				want = api.OK
			}
			wantRight(t, with(sub('a', value)), want)
		}
	}
	for r := rune(0); r <= 0x10ffff; r++ {
		if r >= 0x3000 && r < 0xd000 || r > 0x10100 && r&0xfff != 0 && r&0xfff != 0xfff {
			continue
		}
		want := api.ErrForm
		if 0x20 <= r && r <= 0x7e || 0xa0 <= r && r <= 0xd7ff || 0xe000 <= r && r <= 0xffff {
			want = api.OK
		}
		if 0xd800 <= r && r <= 0xdfff {
			// Go does not write a surrogate, but these would be its bytes.
			bytes := []byte{0xed, byte(0x80 | r>>6&0x3f), byte(0x80 | r&0x3f)}
			wantRight(t, with(sub('a', string(bytes))), api.ErrForm)
			continue
		}
		wantRight(t, with(sub('a', string(r))), want)
	}
	for _, value := range noTexts {
		for _, s := range []string{value, "Dogs" + value, value + "Dogs", "Do" + value + "gs", value + value} {
			wantRight(t, with(sub('a', s)), api.ErrForm)
			wantRight(t, with(sub('a', "x"), sub('a', s)), api.ErrForm)
		}
	}
	for _, value := range oddTexts {
		wantRight(t, with(sub('a', value)), api.OK)
	}
}

// P7.1: authorities near the limits, and far from them.
func TestRightAuth(t *testing.T) {
	for n := -20; n <= 10100; n++ {
		f := dogs()
		f.Auth = n
		want := api.OK
		if n < 0 || n > 9999 {
			want = api.ErrRange
		}
		wantRight(t, f, want)
	}
	for _, n := range far {
		f := dogs()
		f.Auth = n
		wantRight(t, f, api.ErrRange)
	}
}

// P7.1: subfields with one error, with several ones, and with none, in lists of up to three; the first subfield with an error counts, and in it the first error.
func TestRightSubOrder(t *testing.T) {
	long := strings.Repeat("x", 201)
	kinds := []struct {
		sub  api.Sub
		want api.Errno
	}{
		{sub('a', "x"), api.OK}, {sub('9', "$"), api.OK},
		{sub('A', "x"), api.ErrArg}, {sub('a', ""), api.ErrMissing}, {sub('a', "\n"), api.ErrForm}, {sub('a', long), api.ErrLong},
		{sub('$', ""), api.ErrArg}, {sub(0, "\n"), api.ErrArg}, {sub(0xff, long), api.ErrArg}, {sub(' ', long+"\xff"), api.ErrArg},
		{sub('a', long+"\n"), api.ErrForm}, {sub('a', "\xff"+long), api.ErrForm},
	}
	first := func(l ...api.Errno) api.Errno {
		for _, err := range l {
			if err != api.OK {
				return err
			}
		}
		return api.OK
	}
	for _, a := range kinds {
		wantRight(t, with(a.sub), a.want)
		for _, b := range kinds {
			wantRight(t, with(a.sub, b.sub), first(a.want, b.want))
			for _, c := range kinds {
				wantRight(t, with(a.sub, b.sub, c.sub), first(a.want, b.want, c.want))
			}
		}
	}
}

// P7.1: every choice of right and wrong parts; the first wrong one counts.
func TestRightOrder(t *testing.T) {
	type part struct {
		text string
		subs []api.Sub
		auth int
		want api.Errno
	}
	tags := []part{{text: "245"}, {text: "010"}, {text: "009", want: api.ErrTag}, {text: "24", want: api.ErrTag}, {text: "", want: api.ErrTag}, {text: "24a", want: api.ErrTag}}
	inds := []part{{text: "10"}, {text: "  "}, {text: "1", want: api.ErrForm}, {text: "1a", want: api.ErrForm}, {text: "100", want: api.ErrForm}, {text: "", want: api.ErrForm}}
	long := strings.Repeat("x", 201)
	lists := []part{
		{subs: times(1)}, {subs: times(16)}, {subs: nil, want: api.ErrMissing}, {subs: []api.Sub{}, want: api.ErrMissing}, {subs: times(17), want: api.ErrLong},
		{subs: append(times(16), sub('A', "x")), want: api.ErrLong}, {subs: append([]api.Sub{sub('a', "")}, times(16)...), want: api.ErrLong},
		{subs: slices.Repeat([]api.Sub{sub('a', "\n")}, 17), want: api.ErrLong}, {subs: append(times(15), sub('A', "x")), want: api.ErrArg},
		{subs: []api.Sub{sub('A', "x")}, want: api.ErrArg}, {subs: []api.Sub{sub('a', "")}, want: api.ErrMissing},
		{subs: []api.Sub{sub('a', "\n")}, want: api.ErrForm}, {subs: []api.Sub{sub('a', long)}, want: api.ErrLong},
		{subs: []api.Sub{sub('a', long), sub('A', "x")}, want: api.ErrLong}, {subs: []api.Sub{sub('a', "x"), sub('a', ""), sub('A', "x")}, want: api.ErrMissing},
	}
	auths := []part{{auth: 0}, {auth: 1}, {auth: 9999}, {auth: -1, want: api.ErrRange}, {auth: 10000, want: api.ErrRange}, {auth: math.MinInt, want: api.ErrRange}, {auth: math.MaxInt, want: api.ErrRange}}
	for _, tag := range tags {
		for _, ind := range inds {
			for _, list := range lists {
				for _, auth := range auths {
					want := api.OK
					for _, p := range []part{auth, list, ind, tag} {
						if p.want != api.OK {
							want = p.want
						}
					}
					wantRight(t, api.Field{Tag: tag.text, Ind: ind.text, Subs: list.subs, Auth: auth.auth}, want)
				}
			}
		}
	}
}

// alike returns fields of which each differs from another one in one part alone; some are valid, some are not.
func alike() []api.Field {
	a, b := sub('a', "Dogs"), sub('b', "Cats")
	var list []api.Field
	for _, tag := range []string{"245", "246", "24", "2450", "", " 245", "\xff"} {
		list = append(list, api.Field{Tag: tag, Ind: "10", Subs: []api.Sub{a, b}, Auth: 7})
	}
	for _, ind := range []string{"11", "20", "01", " 0", "1", "", "10 ", "##"} {
		list = append(list, api.Field{Tag: "245", Ind: ind, Subs: []api.Sub{a, b}, Auth: 7})
	}
	for _, auth := range append([]int{0, 1, 6, 8, -7, 7 + 1<<32, -1}, far...) {
		list = append(list, api.Field{Tag: "245", Ind: "10", Subs: []api.Sub{a, b}, Auth: auth})
	}
	for _, subs := range [][]api.Sub{
		nil, {a}, {b}, {b, a}, {a, a}, {b, b}, {a, b, a}, {a, b, b}, {a, a, b}, {b, a, b}, {{}}, {{}, {}}, {a, {}}, {a, b, {}}, {{}, a, b},
		{sub('c', "Dogs"), b}, {a, sub('c', "Cats")}, {sub('A', "Dogs"), b}, {a, sub(0, "Cats")}, {sub('b', "Dogs"), sub('a', "Cats")},
		{sub('a', "Dog"), b}, {sub('a', "Dogss"), b}, {sub('a', "dogs"), b}, {a, sub('b', "")}, {a, sub('b', "Cat\u00df")}, {sub('a', "Cats"), sub('b', "Dogs")}, {sub('a', "Dogs$bCats")},
		times(16), times(17), append(times(16), sub('a', "y")), append(times(16), sub('b', "x")), append([]api.Sub{sub('a', "y")}, times(16)...),
	} {
		list = append(list, api.Field{Tag: "245", Ind: "10", Subs: subs, Auth: 7})
	}
	return append(list,
		api.Field{}, api.Field{Subs: []api.Sub{{}}}, api.Field{Tag: "10", Ind: "245", Subs: []api.Sub{a, b}, Auth: 7}, api.Field{Tag: "24510", Subs: []api.Sub{a, b}, Auth: 7}, api.Field{Ind: "24510", Subs: []api.Sub{a, b}, Auth: 7})
}

// P7.2: fields that differ in one part alone, and fields that are equal but built anew.
func TestSame(t *testing.T) {
	list, again := alike(), alike()
	for i, a := range list {
		for j, b := range again {
			if got := Same(a, b); got != (i == j) {
				t.Errorf("Same is %t: %s and %s", got, short(shown(a)), short(shown(b)))
			}
			if Same(a, b) != Same(b, a) {
				t.Errorf("Same depends on the order: %s and %s", short(shown(a)), short(shown(b)))
			}
		}
		if !Same(a, a) {
			t.Errorf("a field is not the same as itself: %s", short(shown(a)))
		}
	}
}

// P7.2: nil and empty lists of subfields, and lists in memory with more room.
func TestSameLists(t *testing.T) {
	for _, f := range alike() {
		g := f
		g.Subs = append(make([]api.Sub, 0, len(f.Subs)+5), f.Subs...)
		if !Same(f, g) || !Same(g, f) {
			t.Errorf("the room behind a list counts: %s", short(shown(f)))
		}
		none, empty := f, f
		none.Subs, empty.Subs = nil, []api.Sub{}
		if !Same(none, empty) || !Same(empty, none) || !Same(none, none) || !Same(empty, empty) {
			t.Errorf("nil and empty are different: %s", short(shown(none)))
		}
		if len(f.Subs) > 0 && (Same(f, none) || Same(none, f) || Same(f, empty) || Same(empty, f)) {
			t.Errorf("no subfields are the same as some: %s", short(shown(f)))
		}
	}
	base := times(16)
	for n := range base {
		if Same(with(base[:n]...), with(base[:n+1]...)) || !Same(with(base[:n]...), with(base[16-n:]...)) {
			t.Errorf("lists of %d subfields", n)
		}
	}
}

// someFields are fields whose subfields are read and changed; some are valid, some are not.
func someFields() []api.Field {
	list := []api.Field{
		{}, dogs(), with(), with(sub('a', "x")), with(sub('b', "x")), with(sub('a', "x"), sub('b', "y")), with(sub('b', "x"), sub('a', "y")), with(sub('a', "x"), sub('a', "y")),
		with(sub('a', "1"), sub('b', "2"), sub('a', "3"), sub('c', "4"), sub('b', "5"), sub('a', "6")), with(sub('c', "1"), sub('b', "2"), sub('a', "3")), with(sub('a', "x"), sub('a', "x"), sub('a', "x")),
		with(sub('a', ""), sub('a', "x")), with(sub('a', ""), sub('b', "")), with(sub('b', " "), sub('a', "  x  "), sub('b', "$")),
		with(sub(0xe9, "1"), sub(0xc3, "2"), sub(0xa9, "3"), sub('a', "4")), with(sub(0, "nought"), sub('$', "dollar"), sub(' ', "blank"), sub('A', "great"), sub(0xff, "last"), sub(0x80, "\xff")),
		with(sub('a', strings.Repeat("x", 1000)), sub('9', "\n"), sub('0', "\xff")), with(times(16)...), with(times(17)...), {Tag: "\xff", Ind: "abc", Subs: times(3), Auth: -1}, {Subs: []api.Sub{{}}},
	}
	every := api.Field{Tag: "245", Ind: "10"}
	for c := range 256 {
		every.Subs = append(every.Subs, sub(byte(c), strconv.Itoa(c)), sub(byte(255-c), strconv.Itoa(1000+c)))
	}
	return append(list, every)
}

// P7.3: every byte as a code, in fields that have it never, once and several times.
func TestGet(t *testing.T) {
	for _, f := range someFields() {
		for c := range 256 {
			want, wantOk := "", false
			for i := len(f.Subs) - 1; i >= 0; i-- {
				if f.Subs[i].Code == byte(c) {
					want, wantOk = f.Subs[i].Value, true
				}
			}
			wantGet(t, f, byte(c), want, wantOk)
		}
	}
	wantGet(t, with(sub('a', ""), sub('a', "x")), 'a', "", true)
	wantGet(t, with(sub('a', "x"), sub('a', "")), 'a', "x", true)
	wantGet(t, with(sub('A', "x")), 'a', "", false)
	wantGet(t, dogs(), 'b', "and $5", true)
	wantGet(t, dogs(), 'c', "", false)
	wantGet(t, dogs(), 0, "", false)
}

// P7.3: codes that occur never, once and several times, in any order.
func TestAll(t *testing.T) {
	f := with(sub('a', "1"), sub('b', "2"), sub('a', "3"), sub('c', "4"), sub('b', "5"), sub('a', "6"))
	wantAll(t, f, "", "1", "2", "3", "4", "5", "6")
	wantAll(t, f, "a", "1", "3", "6")
	wantAll(t, f, "b", "2", "5")
	wantAll(t, f, "c", "4")
	wantAll(t, f, "d")
	wantAll(t, f, "ab", "1", "2", "3", "5", "6")
	wantAll(t, f, "ba", "1", "2", "3", "5", "6")
	wantAll(t, f, "ca", "1", "3", "4", "6")
	wantAll(t, f, "aa", "1", "3", "6")
	wantAll(t, f, "bab", "1", "2", "3", "5", "6")
	wantAll(t, f, "cc", "4")
	wantAll(t, f, "dc", "4")
	wantAll(t, f, "cd", "4")
	wantAll(t, f, "abc", "1", "2", "3", "4", "5", "6")
	wantAll(t, f, "dxz")
	wantAll(t, f, " ")
	wantAll(t, f, "\x00")
	wantAll(t, f, "A")
	wantAll(t, f, "a-c", "1", "3", "4", "6")
	wantAll(t, with(), "")
	wantAll(t, with(), "a")
	wantAll(t, api.Field{}, "\xff")
	wantAll(t, with(sub('a', ""), sub('b', "x"), sub('a', "")), "", "", "x", "")
	wantAll(t, with(sub('a', ""), sub('b', "x"), sub('a', "")), "a", "", "")
	wantAll(t, with(sub('b', " "), sub('a', "  x  "), sub('b', "$")), "ab", " ", "  x  ", "$")
}

// P7.3: codes are bytes; a character of several bytes is as many codes.
func TestAllBytes(t *testing.T) {
	f := with(sub(0xe9, "1"), sub(0xc3, "2"), sub(0xa9, "3"), sub('a', "4"))
	wantAll(t, f, "\u00e9", "2", "3")
	wantAll(t, f, "\xe9", "1")
	wantAll(t, f, "\xc3", "2")
	wantAll(t, f, "a\xa9", "3", "4")
	wantAll(t, f, "\ufffd")
	wantAll(t, with(sub(0xff, "1"), sub(0xfe, "2")), "\xff", "1")
	wantAll(t, with(sub(0xbd, "1"), sub(0xfe, "2")), "\ufffd", "1")
	codes := []string{"", "\x00\x01", "$", "$a", "az09", "\u00e9", "\ufffd", "\xff\xfe", "\u65e5", strings.Repeat("a", 1000), strings.Repeat("q\x00", 5000)}
	random := rand.New(rand.NewSource(73))
	for range 50 {
		some := make([]byte, 1+random.Intn(20))
		random.Read(some)
		codes = append(codes, string(some))
	}
	for c := range 256 {
		codes = append(codes, string([]byte{byte(c)}), string([]byte{byte(c), byte(c)}), string([]byte{'a', byte(c)}))
	}
	for _, f := range someFields() {
		for _, list := range codes {
			var want []string
			for _, s := range f.Subs {
				if len(list) == 0 || slices.Contains([]byte(list), s.Code) {
					want = append(want, s.Value)
				}
			}
			wantAll(t, f, list, want...)
		}
	}
}

// P7.3: what is written into the result of All does not reach the field.
func TestAllShares(t *testing.T) {
	for _, f := range someFields() {
		before := shown(f)
		for _, codes := range []string{"", "a", "ab"} {
			got := All(f, codes)
			for i := range got {
				got[i] = "!"
			}
		}
		if shown(f) != before {
			t.Errorf("All shares memory with the field: %s", short(before))
		}
	}
}

// P7.4: a first, a middle, a last, a missing and a repeated code, with a value and without one.
func TestSet(t *testing.T) {
	f := with(sub('a', "1"), sub('b', "2"), sub('c', "3"))
	wantSet(t, f, 'a', "x", with(sub('a', "x"), sub('b', "2"), sub('c', "3")))
	wantSet(t, f, 'b', "x", with(sub('a', "1"), sub('b', "x"), sub('c', "3")))
	wantSet(t, f, 'c', "x", with(sub('a', "1"), sub('b', "2"), sub('c', "x")))
	wantSet(t, f, 'd', "x", with(sub('a', "1"), sub('b', "2"), sub('c', "3"), sub('d', "x")))
	wantSet(t, f, 'A', "x", with(sub('a', "1"), sub('b', "2"), sub('c', "3"), sub('A', "x")))
	wantSet(t, f, 'a', "", with(sub('b', "2"), sub('c', "3")))
	wantSet(t, f, 'b', "", with(sub('a', "1"), sub('c', "3")))
	wantSet(t, f, 'c', "", with(sub('a', "1"), sub('b', "2")))
	wantSet(t, f, 'd', "", f)
	wantSet(t, f, 'b', "2", f)
	g := with(sub('b', "1"), sub('a', "2"), sub('b', "3"), sub('b', "4"), sub('c', "5"), sub('b', "6"))
	wantSet(t, g, 'b', "x", with(sub('b', "x"), sub('a', "2"), sub('b', "3"), sub('b', "4"), sub('c', "5"), sub('b', "6")))
	wantSet(t, g, 'b', "", with(sub('a', "2"), sub('c', "5")))
	wantSet(t, g, 'c', "x", with(sub('b', "1"), sub('a', "2"), sub('b', "3"), sub('b', "4"), sub('c', "x"), sub('b', "6")))
	wantSet(t, with(sub('a', "1"), sub('a', "2")), 'a', "", with())
	wantSet(t, with(sub('a', "1")), 'a', "", with())
	wantSet(t, with(), 'a', "", with())
	wantSet(t, with(), 'a', "x", with(sub('a', "x")))
	wantSet(t, api.Field{}, 'a', "x", api.Field{Subs: []api.Sub{sub('a', "x")}})
	wantSet(t, api.Field{}, 0, "", api.Field{})
	wantSet(t, api.Field{}, 0, "\xff", api.Field{Subs: []api.Sub{sub(0, "\xff")}})
	wantSet(t, with(sub('a', ""), sub('a', "x")), 'a', "y", with(sub('a', "y"), sub('a', "x")))
	wantSet(t, with(times(16)...), 'b', "x", with(append(times(16), sub('b', "x"))...))
}

// setOf returns what the document says that Set returns.
func setOf(f api.Field, code byte, value string) api.Field {
	list, found := []api.Sub{}, false
	for _, s := range f.Subs {
		switch {
		case s.Code != code:
			list = append(list, s)
		case value == "":
		case found:
			list = append(list, s)
		default:
			list = append(list, sub(code, value))
			found = true
		}
	}
	if value != "" && !found {
		list = append(list, sub(code, value))
	}
	return api.Field{Tag: f.Tag, Ind: f.Ind, Subs: list, Auth: f.Auth}
}

// P7.4: every byte as a code, with values that are allowed and that are not, in lists with and without room behind their ends.
func TestSetMany(t *testing.T) {
	for _, f := range someFields() {
		roomy := f
		roomy.Subs = append(make([]api.Sub, 0, len(f.Subs)+4), f.Subs...)
		behind := f
		behind.Subs = append(slices.Clone(f.Subs), sub('a', "behind"), sub('b', "behind"), sub('z', "behind"))[:len(f.Subs)]
		for c := range 256 {
			for _, value := range []string{"", "new", "$", " ", "\n", "\xff", strings.Repeat("x", 201)} {
				want := setOf(f, byte(c), value)
				wantSet(t, f, byte(c), value, want)
				wantSet(t, roomy, byte(c), value, want)
				wantSet(t, behind, byte(c), value, want)
			}
		}
	}
}

// P7.5: lines that are written out.
func TestPrint(t *testing.T) {
	for _, c := range []struct {
		f    api.Field
		want string
	}{
		{api.Field{Tag: "010", Ind: "  ", Subs: []api.Sub{sub('a', "x")}}, "010 ## $ax"},
		{api.Field{Tag: "999", Ind: "99", Subs: []api.Sub{sub('0', "0")}, Auth: 9999}, "999@9999 99 $00"},
		{api.Field{Tag: "100", Ind: "1 ", Subs: []api.Sub{sub('a', "Smith, Ann"), sub('d', "1950-")}, Auth: 10}, "100@10 1# $aSmith, Ann$d1950-"},
		{api.Field{Tag: "650", Ind: " 0", Subs: []api.Sub{sub('a', "Dogs"), sub('x', "History")}, Auth: 1}, "650@1 #0 $aDogs$xHistory"},
		{api.Field{Tag: "245", Ind: "10", Subs: []api.Sub{sub('a', "$")}}, "245 10 $a$$"},
		{api.Field{Tag: "245", Ind: "10", Subs: []api.Sub{sub('a', "$$$")}}, "245 10 $a$$$$$$"},
		{api.Field{Tag: "245", Ind: "10", Subs: []api.Sub{sub('a', "$5")}}, "245 10 $a$$5"},
		{api.Field{Tag: "245", Ind: "10", Subs: []api.Sub{sub('a', "5$"), sub('b', "$6$")}}, "245 10 $a5$$$b$$6$$"},
		{api.Field{Tag: "245", Ind: "10", Subs: []api.Sub{sub('a', "a$$b"), sub('a', "$a")}}, "245 10 $aa$$$$b$a$$a"},
		{api.Field{Tag: "245", Ind: "10", Subs: []api.Sub{sub('a', " "), sub('b', "#"), sub('c', "@"), sub('d', "\u00e9\u00a0")}}, "245 10 $a $b#$c@$d\u00e9\u00a0"},
		{api.Field{Tag: "024", Ind: "00", Subs: []api.Sub{sub('9', "\u65e5")}, Auth: 100}, "024@100 00 $9\u65e5"},
	} {
		if got, err := Print(c.f); got != c.want || err != api.OK {
			t.Errorf("Print is %q, error %d, not %q", got, int(err), c.want)
		}
		wantParse(t, c.want, c.f)
	}
}

// P7.5 and P7.6: all indicators, all authorities, all tags, and values with "$" at every place.
func TestPrintParse(t *testing.T) {
	for _, a := range " 0123456789" {
		for _, b := range " 0123456789" {
			f := dogs()
			f.Ind = string(a) + string(b)
			check(t, f)
		}
	}
	for n := range 10000 {
		f := with(sub('a', "Dogs"))
		f.Auth = n
		check(t, f)
		f.Tag = fmt.Sprintf("%03d", n%1000)
		check(t, f)
	}
	for _, a := range oddTexts {
		check(t, with(sub('a', a)))
		for _, b := range oddTexts {
			check(t, with(sub('a', a), sub('0', b)))
			check(t, with(sub('b', "x"), sub('a', a), sub('a', b), sub('b', "y")))
			check(t, with(sub('a', a+b)))
		}
	}
	for _, value := range over([]string{"$", "a", " ", "\u00e9"}, 5) {
		check(t, with(sub('a', value), sub('b', "x")))
	}
}

// over returns all texts of up to n parts.
func over(parts []string, n int) []string {
	list := []string{""}
	last := list
	for range n {
		var next []string
		for _, s := range last {
			for _, p := range parts {
				next = append(next, s+p)
			}
		}
		list = append(list, next...)
		last = next
	}
	return list
}

// P7.6: strings that are not lines, written out.
func TestParseWrong(t *testing.T) {
	for _, s := range []string{
		"", " ", "  ", "$", "$$", "$a", "@", "245", "245 ", "245 10", "245 10 ", "245 10 $", "245 10 $a", "245 10 $$", "245 10 $$a", "245 10 $$ax", "245 10 $$$ax", "245 10 ax", "245 10 a", "245 10 Dogs",
		"24510 $aDogs", "245 10$aDogs", "24510$aDogs", "245  10 $aDogs", "245 10  $aDogs", " 245 10 $aDogs", "245\t10 $aDogs", "245 10\t$aDogs", "245\u00a010 $aDogs", "245 10\u00a0$aDogs",
		"245 1 $aDogs", "245 100 $aDogs", "245 1  $aDogs", "245   0 $aDogs", "245    $aDogs", "245  # $aDogs", "245 #  $aDogs", "245 1a $aDogs", "245 -1 $aDogs", "245 # $aDogs", "245 ### $aDogs", "245 \u00e9 $aDogs",
		"009 10 $aDogs", "000 10 $aDogs", "24 10 $aDogs", "2450 10 $aDogs", "24a 10 $aDogs", "#45 10 $aDogs", " 45 10 $aDogs", "\uff12\uff14\uff15 10 $aDogs",
		"245@ 10 $aDogs", "245@0 10 $aDogs", "245@00 10 $aDogs", "245@03 10 $aDogs", "245@003 10 $aDogs", "245@+3 10 $aDogs", "245@-3 10 $aDogs", "245@-0 10 $aDogs", "245@3a 10 $aDogs", "245@a 10 $aDogs",
		"245@10000 10 $aDogs", "245@9999999 10 $aDogs", "245@4294967299 10 $aDogs", "245@9223372036854775807 10 $aDogs", "245@9223372036854775808 10 $aDogs", "245@18446744073709551619 10 $aDogs", "245@99999999999999999999999 10 $aDogs", "245@-9223372036854775808 10 $aDogs",
		"245@3@3 10 $aDogs", "245@@3 10 $aDogs", "245@3@ 10 $aDogs", "@245@3 10 $aDogs", "245@ 3 10 $aDogs", "245 @3 10 $aDogs", "245@3  10 $aDogs", "245@0x3 10 $aDogs", "245@1_0 10 $aDogs", "245@3.0 10 $aDogs", "245@1e1 10 $aDogs", "245@\u0663 10 $aDogs", "245#3 10 $aDogs", "245 10@3 $aDogs", "@3 10 $aDogs", "3@245 10 $aDogs",
		"245 10 $aDogs$", "245 10 $aDogs$$$", "245 10 $aDogs$b", "245 10 $aDogs$b$cx", "245 10 $a$bDogs", "245 10 $aDogs$Bx", "245 10 $ADogs", "245 10 $ Dogs", "245 10 $", "245 10 $#x", "245 10 $\u00e9x", "245 10 $aDogs$ x", "245 10 $aDogs$-x", "245 10 $a$", "245 10 $a$$$",
		"245 10 $aDogs\n", "245 10 $aDogs\r\n", "245 10 $aDo\ngs", "245 10 $aDogs\x00", "245 10 $aDogs\xff", "245 10 $aDogs\x7f", "\ufeff245 10 $aDogs", "245 10 $a\U00010000", "245 10 $a\xed\xa0\x80",
		"245 10 $aDogs\n245 10 $aDogs", "245 10 x$aDogs", "245 10 0$aDogs", "245 10  $aDogs", "245 10 @3$aDogs", "=1 3 book eng",
	} {
		wantNone(t, s)
		checkParse(t, s)
	}
}

// P7.6: lines at the limits, and beyond them.
func TestParseLimits(t *testing.T) {
	head := "650@3 #0 "
	wantParse(t, head+"$a"+strings.Repeat("x", 200), with(sub('a', strings.Repeat("x", 200))))
	wantNone(t, head+"$a"+strings.Repeat("x", 201))
	wantParse(t, head+"$a"+strings.Repeat("$", 400), with(sub('a', strings.Repeat("$", 200))))
	wantNone(t, head+"$a"+strings.Repeat("$", 399))
	wantNone(t, head+"$a"+strings.Repeat("$", 401))
	wantNone(t, head+"$a"+strings.Repeat("$", 402))
	wantParse(t, head+"$a"+strings.Repeat("\u00e9", 100), with(sub('a', strings.Repeat("\u00e9", 100))))
	wantNone(t, head+"$a"+strings.Repeat("\u00e9", 100)+"x")
	wantParse(t, head+strings.Repeat("$ax", 16), with(times(16)...))
	for n := 17; n < 300; n++ {
		wantNone(t, head+strings.Repeat("$ax", n))
	}
	wantNone(t, head+strings.Repeat("$ax", 16)+"$")
	wantNone(t, head+strings.Repeat("$ax", 16)+"$a")
	wantParse(t, head+strings.Repeat("$ax", 15)+"$ax$$", with(append(times(15), sub('a', "x$"))...))
	var full []api.Sub
	for i := range 16 {
		full = append(full, sub("abcdefgh01234567"[i], strings.Repeat("$", 200)))
	}
	check(t, with(full...))
}

// P7.6: long strings, most of which look like a line for a while.
func TestParseLong(t *testing.T) {
	for _, n := range []int{1000, 10001, 1 << 20} {
		for _, part := range []string{"$", "$$", "$a", "$ax", "$a$$", "x", " ", "2", "@", "@3", "#", "0", "9", "\n", "\x00", "\xff", "\u00e9", "\u65e5", "245 10 $aDogs", "245 10 $aDogs\n"} {
			long := strings.Repeat(part, n/len(part))
			for _, s := range []string{
				long, "245" + long, "245 " + long, "245 1" + long, "245 10" + long, "245 10 " + long, "245 10 $a" + long, "245 10 $aDogs" + long, "245@" + long, "245@3" + long, "245@3 10 " + long, long + " 10 $aDogs", "245 " + long + " $aDogs",
				"245@" + long + " 10 $aDogs", "245@3 " + long + " $aDogs", "24" + long + " 10 $aDogs", long + "245 10 $aDogs", "245 10 $aDogs$b" + long + "$cx", "245 10 " + long + "$aDogs",
			} {
				wantNone(t, s)
			}
		}
	}
}

// lines returns the lines of fields of all kinds.
func lines() []string {
	list := []string{
		"245 10 $aDogs$band $$5$ax", "650@3 #0 $aDogs", "010 ## $ax", "999@9999 99 $00$11", "100@10 1# $aSmith, Ann$d1950-", "245 10 $a$$", "245 10 $a$$$$$b$$x$$$c$$", "245 00 $a $b#$c@$d\u00e9\u00a0\u65e5",
		"110@1000 2  $aX", "700@1 0# $aa$aa$aa", "856 4# $a245 10 $$aDogs", "300 ## " + strings.Repeat("$az", 16), "490@11 1# $a11$v@1",
	}
	for _, f := range someFields() {
		if rightOf(f) == api.OK {
			list = append(list, lineOf(f))
		}
	}
	return list
}

// P7.6: many lines with a byte left out, changed, added and doubled.
func TestParseNearly(t *testing.T) {
	some := []byte("$ab@# 0139A\x00\n\x7f\x80\xa9\xc3\xff+-")
	for n, line := range lines() {
		bytes := some
		if n < 3 {
			bytes = nil
			for c := range 256 {
				bytes = append(bytes, byte(c))
			}
		}
		checkParse(t, line)
		for i := range len(line) {
			checkParse(t, line[:i])
			checkParse(t, line[i:])
			checkParse(t, line[:i]+line[i+1:])
			checkParse(t, line[:i+1]+line[i:])
			for _, c := range bytes {
				checkParse(t, line[:i]+string([]byte{c})+line[i+1:])
				checkParse(t, line[:i]+string([]byte{c})+line[i:])
			}
		}
		for _, c := range bytes {
			checkParse(t, line+string([]byte{c}))
		}
	}
}

// P7.6: lines with two bytes exchanged, and with several changes.
func TestParseChanged(t *testing.T) {
	random := rand.New(rand.NewSource(76))
	bytes := []byte("$$$ab@# 019")
	for _, line := range lines() {
		for i := range len(line) - 1 {
			checkParse(t, line[:i]+line[i+1:i+2]+line[i:i+1]+line[i+2:])
		}
		for range 300 {
			s := line
			for range 2 + random.Intn(3) {
				i, c := random.Intn(len(s)), string(bytes[random.Intn(len(bytes))])
				s = s[:i] + []string{c, c + s[i:i+1], "", s[i:i+1] + s[i:i+1]}[random.Intn(4)] + s[i+1:]
				if s == "" {
					break
				}
			}
			checkParse(t, s)
		}
	}
}

// P7.6: all short beginnings, middles and ends of a line.
func TestParseShort(t *testing.T) {
	for _, s := range over([]string{"$", "a", "B", " ", "\x80"}, 6) {
		checkParse(t, "245 10 "+s)
		checkParse(t, "245 10 $a"+s)
	}
	for _, s := range over([]string{"@", "0", "1", "9", " ", "+", "-", "a"}, 5) {
		checkParse(t, "650"+s+" #0 $aDogs")
	}
	for _, s := range over([]string{"#", "0", "9", " ", "@", "$", "a", "\u00e9"}, 4) {
		checkParse(t, "650 "+s+" $aDogs")
		checkParse(t, s+" #0 $aDogs")
		checkParse(t, "650"+s+"$aDogs")
	}
	for _, s := range over([]string{"2", "4", " ", "1", "$", "a", "@"}, 6) {
		checkParse(t, s)
	}
}

// randomField returns a field; some are not valid.
func randomField(random *rand.Rand) api.Field {
	tags := []string{"010", "100", "245", "650", "999", "009", "24"}
	values := []string{"x", "$", "$$", "a$b", " ", "#", "Dogs", "$a", "\u00e9", "\u65e5$", "", "\n"}
	odd := func(n int) int {
		// The last values of a list are the wrong ones; they occur seldom.
		if random.Intn(20) > 0 {
			n -= 2
		}
		return random.Intn(n)
	}
	f := api.Field{Tag: tags[odd(len(tags))], Ind: []string{"10", "  ", " 0", "1 ", "1", "1a"}[odd(6)], Auth: []int{0, 0, 0, 1, 2, 10, 9999, -1, 10000}[odd(9)]}
	for range 1 + random.Intn(4) {
		f.Subs = append(f.Subs, sub("abab0$A"[odd(7)], values[odd(len(values))]))
	}
	return f
}

// P7.7: Parse of Print is the field, and only fields that are the same have the same line.
func TestRestoration(t *testing.T) {
	random := rand.New(rand.NewSource(77))
	fields := append(alike(), someFields()...)
	for range 20000 {
		fields = append(fields, randomField(random))
	}
	seen := map[string]api.Field{}
	for _, f := range fields {
		check(t, f)
		line, err := Print(f)
		if err != api.OK {
			continue
		}
		g, err := Parse(line)
		if err != api.OK || !Same(f, g) || Right(g) != api.OK {
			t.Errorf("Parse of Print is %s, error %d, not %s", short(shown(g)), int(err), short(shown(f)))
		}
		if other, ok := seen[line]; ok && (!Same(f, other) || !equal(f, other)) {
			t.Errorf("%s and %s have the same line", short(shown(f)), short(shown(other)))
		}
		seen[line] = f
	}
	if len(seen) < 5000 {
		t.Errorf("%d lines are few", len(seen))
	}
}

// P7.7: a string that Parse accepts is Print of what it returns.
func TestRestorationOfLines(t *testing.T) {
	accepted := 0
	for _, line := range lines() {
		for i := range len(line) {
			for _, c := range []string{"", "$", "$$", "a", "0", "1", "#", "@", " "} {
				s := line[:i] + c + line[i:]
				f, err := Parse(s)
				if err != api.OK {
					continue
				}
				accepted++
				if again, err := Print(f); again != s || err != api.OK {
					t.Errorf("Print of Parse of %q is %q, error %d", s, again, int(err))
				}
			}
		}
	}
	if accepted < 500 {
		t.Errorf("%d accepted strings are few", accepted)
	}
}

// P7.8: after Set, Get returns the value or nothing, and the values of other codes are as they were.
func TestSetGet(t *testing.T) {
	random := rand.New(rand.NewSource(78))
	fields := append(alike(), someFields()...)
	for range 300 {
		fields = append(fields, randomField(random))
	}
	codes := []byte{'a', 'b', 'c', '0', 'z', 'A', '$', ' ', 0, 0x80, 0xe9, 0xff}
	for _, f := range fields {
		for _, code := range codes {
			for _, value := range []string{"", "x", "Dogs", "$", " ", "\u00e9", "\n", "\xff"} {
				g := Set(f, code, value)
				wantGet(t, g, code, value, value != "")
				if value == "" {
					wantAll(t, g, string([]byte{code}))
				}
				for c := range 256 {
					if other := string([]byte{byte(c)}); byte(c) != code && !slices.Equal(All(g, other), All(f, other)) {
						t.Errorf("Set(%q, %q) changes the values of %q: %s", code, value, other, short(shown(f)))
					}
				}
				if again := Set(g, code, value); !Same(again, g) {
					t.Errorf("Set(%q, %q) changes more a second time: %s", code, value, short(shown(f)))
				}
			}
		}
	}
}
