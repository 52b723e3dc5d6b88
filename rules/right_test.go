package rules

import (
	"fmt"
	"math"
	"regexp"
	"slices"
	"strings"
	"testing"

	"library/api"
)

// The shapes that the document describes; in a list of codes each character may stand at one place alone.
var (
	tagShape   = regexp.MustCompile(`\A(?:0[1-9]|[1-9][0-9])[0-9]\z`)
	codesShape = regexp.MustCompile(`\A0?1?2?3?4?5?6?7?8?9?a?b?c?d?e?f?g?h?i?j?k?l?m?n?o?p?q?r?s?t?u?v?w?x?y?z?\z`)
)

// rightOf returns what the document says that Right returns.
func rightOf(l []api.TagRule) api.Errno {
	if len(l) > 32 {
		return api.ErrFull
	}
	for i, r := range l {
		if !tagShape.MatchString(r.Tag) {
			return api.ErrTag
		}
		if i > 0 && r.Tag <= l[i-1].Tag {
			return api.ErrTwice
		}
		if r.Codes == "" || !codesShape.MatchString(r.Codes) {
			return api.ErrForm
		}
		for _, part := range []string{r.Once, r.Needs} {
			if !codesShape.MatchString(part) || strings.Trim(part, r.Codes) != "" {
				return api.ErrForm
			}
		}
		if !slices.Contains([]int{0, 1, 2, 3, 4}, r.Auth) {
			return api.ErrArg
		}
	}
	return api.OK
}

// wantRight compares Right with what it must return, and checks that the rules stay as they were.
func wantRight(t *testing.T, l []api.TagRule, want api.Errno) {
	t.Helper()
	given := roomyRules(l)
	same := rulesKeeper(given)
	if got := Right(given); got != want {
		t.Errorf("Right is %d, not %d, for %s", int(got), int(want), shownRules(l))
	}
	if model := rightOf(l); model != want {
		t.Errorf("the definition gives %d, not %d, for %s", int(model), int(want), shownRules(l))
	}
	if !same() {
		t.Errorf("Right changes what it was given: %s", shownRules(l))
	}
}

// wantRule compares Right with what it must return for a rule alone, and for the same rule behind and before other ones.
func wantRule(t *testing.T, r api.TagRule, want api.Errno) {
	t.Helper()
	wantRight(t, []api.TagRule{r}, want)
	if r.Tag > "010" {
		wantRight(t, []api.TagRule{rule("010"), r}, want)
	}
	if r.Tag < "999" {
		wantRight(t, []api.TagRule{r, rule("999")}, want)
	}
}

// errorIf returns an error if it applies.
func errorIf(applies bool, err api.Errno) api.Errno {
	if applies {
		return err
	}
	return api.OK
}

// P9.2: no rules, MaxRules of them, and more; too many come before all other errors.
func TestRightNumber(t *testing.T) {
	if got := Right(nil); got != api.OK {
		t.Errorf("Right of nil is %d", int(got))
	}
	if got := Right([]api.TagRule{}); got != api.OK {
		t.Errorf("Right of no rules is %d", int(got))
	}
	if api.MaxRules != 32 {
		t.Errorf("MaxRules is %d", api.MaxRules)
	}
	for n := range 110 {
		wantRight(t, ruleList(n), errorIf(n > 32, api.ErrFull))
	}
	for _, n := range []int{256, 257, 65536, 65537, 100000} {
		wantRight(t, make([]api.TagRule, n), api.ErrFull)
	}
	wantRight(t, slices.Repeat([]api.TagRule{rule("245")}, 32), api.ErrTwice)
	wantRight(t, slices.Repeat([]api.TagRule{rule("245")}, 33), api.ErrFull)
	for name, wrong := range wrongRules() {
		for _, n := range []int{33, 34, 64} {
			for _, i := range []int{0, 1, n / 2, 31, 32, n - 1} {
				list := ruleList(n)
				list[i] = wrong
				if got := Right(list); got != api.ErrFull {
					t.Errorf("Right of %d rules is %d, rule %d with %s", n, int(got), i, name)
				}
			}
		}
	}
}

// wrongRules returns rules with an error each, but for the order of tags.
func wrongRules() map[string]api.TagRule {
	list := map[string]api.TagRule{}
	change := func(name string, f func(r *api.TagRule)) {
		r := rule("500")
		f(&r)
		list[name] = r
	}
	change("a wrong tag", func(r *api.TagRule) { r.Tag = "50a" })
	change("a tag that is too small", func(r *api.TagRule) { r.Tag = "009" })
	change("no codes", func(r *api.TagRule) { r.Codes, r.Once, r.Needs = "", "", "" })
	change("codes that descend", func(r *api.TagRule) { r.Codes = "za" })
	change("wrong codes", func(r *api.TagRule) { r.Codes = "aA" })
	change("Once that descends", func(r *api.TagRule) { r.Once = "za" })
	change("Once with another code", func(r *api.TagRule) { r.Once = "b" })
	change("Needs that descends", func(r *api.TagRule) { r.Needs = "za" })
	change("Needs with another code", func(r *api.TagRule) { r.Needs = "b" })
	change("Auth below 0", func(r *api.TagRule) { r.Auth = -1 })
	change("Auth above 4", func(r *api.TagRule) { r.Auth = 5 })
	return list
}

// P9.2: each error alone, at each place of up to MaxRules rules.
func TestRightPlaces(t *testing.T) {
	for _, wrong := range wrongRules() {
		wrongTag := !tagShape.MatchString(wrong.Tag)
		for _, n := range []int{1, 2, 3, 31, 32} {
			for i := range n {
				list := ruleList(n)
				tag := list[i].Tag
				list[i] = wrong
				if !wrongTag {
					list[i].Tag = tag
				}
				wantRight(t, list, rightOf([]api.TagRule{wrong}))
			}
		}
	}
	for _, n := range []int{2, 3, 31, 32} {
		for i := 1; i < n; i++ {
			list := ruleList(n)
			list[i].Tag = list[i-1].Tag
			wantRight(t, list, api.ErrTwice)
			list = ruleList(n)
			list[i-1], list[i] = list[i], list[i-1]
			wantRight(t, list, api.ErrTwice)
		}
	}
}

// P9.2: tags of three digits, of other lengths, and strings that are no tags.
func TestRightTags(t *testing.T) {
	for n := range 1000 {
		wantRule(t, rule(fmt.Sprintf("%03d", n)), errorIf(n < 10, api.ErrTag))
	}
	for _, tag := range oddTags {
		wantRight(t, []api.TagRule{rule(tag)}, api.ErrTag)
		wantRight(t, []api.TagRule{rule(tag), rule("999")}, api.ErrTag)
		wantRight(t, []api.TagRule{rule("010"), rule(tag)}, api.ErrTag)
	}
	for n := range 100 {
		wantRight(t, []api.TagRule{rule(fmt.Sprint(n))}, api.ErrTag)
		wantRight(t, []api.TagRule{rule(fmt.Sprintf("%02d", n))}, api.ErrTag)
		wantRight(t, []api.TagRule{rule(fmt.Sprintf("%04d", n))}, api.ErrTag)
		wantRight(t, []api.TagRule{rule(fmt.Sprintf("%d", 1000+91*n))}, api.ErrTag)
	}
	wantRight(t, []api.TagRule{rule(strings.Repeat("1", 1<<16))}, api.ErrTag)
}

// P9.2: every byte at each place of a tag.
func TestRightTagBytes(t *testing.T) {
	for _, base := range []string{"245", "010", "099", "999"} {
		for i := range 3 {
			for c := range 256 {
				tag := []byte(base)
				tag[i] = byte(c)
				wantRight(t, []api.TagRule{rule(string(tag))}, errorIf(!tagShape.Match(tag), api.ErrTag))
			}
		}
	}
}

// P9.2: tags less than, equal to and greater than that of the rule before, and of the one before that.
func TestRightOrderOfTags(t *testing.T) {
	tags := ruleTags()
	for i, a := range tags {
		for j, b := range tags {
			wantRight(t, []api.TagRule{rule(a), rule(b)}, errorIf(i >= j, api.ErrTwice))
			if i%3 == 0 && j%2 == 0 {
				for k, c := range tags {
					wantRight(t, []api.TagRule{rule(a), rule(b), rule(c)}, errorIf(i >= j || j >= k, api.ErrTwice))
				}
			}
		}
	}
	// Each tag has a digit that is less than one before it.
	wantRight(t, []api.TagRule{rule("019"), rule("020"), rule("091"), rule("100"), rule("190"), rule("200"), rule("910")}, api.OK)
}

// wantCodes checks a list of codes as Codes, as Once and as Needs.
func wantCodes(t *testing.T, codes string, list bool) {
	t.Helper()
	r := api.TagRule{Tag: "245", Codes: codes}
	wantRight(t, []api.TagRule{r}, errorIf(!list || codes == "", api.ErrForm))
	r = api.TagRule{Tag: "245", Codes: allCodes, Once: codes}
	wantRight(t, []api.TagRule{r}, errorIf(!list, api.ErrForm))
	r = api.TagRule{Tag: "245", Codes: allCodes, Needs: codes}
	wantRight(t, []api.TagRule{r}, errorIf(!list, api.ErrForm))
	if list && codes != "" {
		wantRule(t, api.TagRule{Tag: "245", Codes: codes, Once: codes, Needs: codes}, api.OK)
	}
}

// P9.2: lists of codes that are empty, of one and of many characters, and what is no such list.
func TestRightCodes(t *testing.T) {
	for _, s := range []string{"", "0", "9", "a", "z", "09", "0a", "9a", "az", "0z", "4ad", "abcnp", "0123456789", "abcdefghijklmnopqrstuvwxyz", allCodes, "02468acegikmoqsuwy", "13579bdfhjlnprtvxz"} {
		wantCodes(t, s, true)
	}
	for _, s := range []string{
		"00", "aa", "zz", "99", "aab", "abb", "abcc", "0a0", "aba", "abcabc", "10", "ba", "za", "a0", "a9", "z0", "ab1", "a1b", "abca", "abdc", "acbd", "bacd", "ad4",
		"A", "Z", "aB", "Ab", "ABC", "-", " ", "a ", " a", "a b", "a,b", "a-z", "0-9", "*", "$a", "#", ".", "/", ":", "`", "{", "@", "[", "_", "\x00", "a\x00", "\x00a", "\n", "a\n", "\xff", "a\xff", "\x80", "\x7f",
		"\u00e9", "a\u00e9", "\u00e9z", "a\u00e9z", "\u00aa", "\u0430", "\uff41", "a\uff42", "\u0660", "\uff10", "\u20ac", "\U0001d4b6", "\u00b2", "\u00b9a", "a\u0301",
		allCodes + "z", "0" + allCodes, allCodes + allCodes, allCodes[10:] + allCodes[:10], strings.Repeat("a", 1<<16), strings.Repeat(allCodes, 1000),
	} {
		wantCodes(t, s, false)
	}
}

// P9.2: every byte alone, every pair of bytes, and every byte at each place of a list.
func TestRightCodeBytes(t *testing.T) {
	for c := range 256 {
		one := string([]byte{byte(c)})
		wantCodes(t, one, strings.Contains(allCodes, one))
		for d := range 256 {
			two := string([]byte{byte(c), byte(d)})
			r := api.TagRule{Tag: "245", Codes: two}
			if got, want := Right([]api.TagRule{r}), errorIf(!codesShape.MatchString(two), api.ErrForm); got != want {
				t.Errorf("Right is %d, not %d, for the codes %q", int(got), int(want), two)
			}
		}
	}
	for _, base := range []string{"4ad", "08", "bdfhj", "abcnp", allCodes} {
		for i := range len(base) {
			for c := range 256 {
				codes := []byte(base)
				codes[i] = byte(c)
				wantCodes(t, string(codes), codesShape.Match(codes))
			}
		}
	}
}

// P9.2: all lists of up to four characters of a few, and a character twice and a pair descending at each place of a long list.
func TestRightCodeOrder(t *testing.T) {
	last := []string{""}
	for range 4 {
		var next []string
		for _, s := range last {
			for _, c := range "039afz" {
				next = append(next, s+string(c))
			}
		}
		for _, s := range next {
			wantCodes(t, s, codesShape.MatchString(s))
		}
		last = next
	}
	for i := range len(allCodes) {
		wantCodes(t, allCodes[:i]+allCodes[i+1:], true)
		wantCodes(t, allCodes[:i], true)
		wantCodes(t, allCodes[i:], true)
		wantCodes(t, allCodes[:i+1]+allCodes[i:], false)
		for j := range i {
			codes := []byte(allCodes)
			codes[i], codes[j] = codes[j], codes[i]
			wantCodes(t, string(codes), false)
			wantCodes(t, string([]byte{allCodes[j], allCodes[i]}), true)
			wantCodes(t, string([]byte{allCodes[i], allCodes[j]}), false)
		}
	}
}

// P9.2: Once and Needs with a code that Codes does not contain, at each place, and with all choices of codes.
func TestRightChoices(t *testing.T) {
	for i := range len(allCodes) {
		codes := allCodes[:i] + allCodes[i+1:]
		for j := range len(allCodes) {
			want := errorIf(i == j, api.ErrForm)
			wantRule(t, api.TagRule{Tag: "245", Codes: codes, Once: allCodes[j : j+1]}, want)
			wantRule(t, api.TagRule{Tag: "245", Codes: codes, Needs: allCodes[j : j+1]}, want)
		}
		wantRule(t, api.TagRule{Tag: "245", Codes: codes, Once: codes, Needs: codes}, api.OK)
		wantRule(t, api.TagRule{Tag: "245", Codes: codes, Once: allCodes}, api.ErrForm)
		wantRule(t, api.TagRule{Tag: "245", Codes: codes, Needs: allCodes}, api.ErrForm)
	}
	var lists []string
	for n := range 16 {
		var b strings.Builder
		for i := range 4 {
			if n>>i&1 == 1 {
				b.WriteByte("2acz"[i])
			}
		}
		lists = append(lists, b.String())
	}
	for _, codes := range lists {
		for i, once := range lists {
			for j, needs := range lists {
				r := api.TagRule{Tag: "245", Codes: codes, Once: once, Needs: needs}
				wantRight(t, []api.TagRule{r}, errorIf(codes == "" || !within(lists, codes, i) || !within(lists, codes, j), api.ErrForm))
			}
		}
	}
	// Neither has to have anything to do with the other.
	wantRule(t, api.TagRule{Tag: "245", Codes: "abc", Once: "b", Needs: "ac"}, api.OK)
	wantRule(t, api.TagRule{Tag: "245", Codes: "abc", Once: "d", Needs: "d"}, api.ErrForm)
	wantRule(t, api.TagRule{Tag: "245", Codes: "b", Once: "b", Needs: "a"}, api.ErrForm)
	wantRule(t, api.TagRule{Tag: "245", Codes: "b", Once: "a", Needs: "b"}, api.ErrForm)
}

// within reports whether the choice with a number contains only characters of codes.
func within(lists []string, codes string, n int) bool {
	return n&^slices.Index(lists, codes) == 0
}

// P9.2: Auth near and far from its limits.
func TestRightAuth(t *testing.T) {
	for auth := range 5 {
		r := rule("245")
		r.Auth = auth
		wantRule(t, r, api.OK)
	}
	for _, auth := range append([]int{-1, 5, math.MinInt, math.MaxInt}, far...) {
		r := rule("245")
		r.Auth = auth
		wantRule(t, r, api.ErrArg)
	}
}

// P9.2: Repeat and Must make no difference.
func TestRightFlags(t *testing.T) {
	for n := range 4 {
		for name, r := range wrongRules() {
			r.Repeat, r.Must = n&1 == 1, n&2 == 2
			if got, want := Right([]api.TagRule{r}), rightOf([]api.TagRule{r}); got != want || want == api.OK {
				t.Errorf("Right is %d, not %d, for a rule with %s", int(got), int(want), name)
			}
		}
		r := rule("245")
		r.Repeat, r.Must = n&1 == 1, n&2 == 2
		wantRule(t, r, api.OK)
	}
}

// The mistakes of a rule, in the promise's order.
const (
	wrongTag = 1 << iota
	wrongOrder
	wrongCodes
	wrongOnce
	wrongNeeds
	wrongAuth
	allWrong
)

// mistaken returns a rule behind one with a tag, with some mistakes; a wrong tag that is not in order is less than the tag before.
func mistaken(before string, mistakes int) api.TagRule {
	r := rule("600")
	if mistakes&wrongOrder != 0 {
		r.Tag = before
	}
	if mistakes&wrongTag != 0 {
		r.Tag = "60a"
	}
	if mistakes&wrongTag != 0 && mistakes&wrongOrder != 0 {
		r.Tag = "009"
	}
	if mistakes&wrongCodes != 0 {
		r.Codes = "za"
	}
	if mistakes&wrongOnce != 0 {
		r.Once = "q"
	}
	if mistakes&wrongNeeds != 0 {
		r.Needs = "aa"
	}
	if mistakes&wrongAuth != 0 {
		r.Auth = 5
	}
	return r
}

// mistakeOf returns the error of the first mistake.
func mistakeOf(mistakes int) api.Errno {
	switch {
	case mistakes&wrongTag != 0:
		return api.ErrTag
	case mistakes&wrongOrder != 0:
		return api.ErrTwice
	case mistakes&(wrongCodes|wrongOnce|wrongNeeds) != 0:
		return api.ErrForm
	case mistakes != 0:
		return api.ErrArg
	}
	return api.OK
}

// P9.2: every choice of mistakes in one rule; the first one in the promise's order counts.
func TestRightOrderOfErrors(t *testing.T) {
	for mistakes := range allWrong {
		for _, before := range []string{"500", "600", "599"} {
			if before == "600" && mistakes&wrongOrder == 0 {
				continue
			}
			wantRight(t, []api.TagRule{rule(before), mistaken(before, mistakes)}, mistakeOf(mistakes))
			wantRight(t, []api.TagRule{rule("010"), rule(before), mistaken(before, mistakes)}, mistakeOf(mistakes))
		}
	}
}

// P9.2: every two choices of mistakes in two rules; the first rule with one counts.
func TestRightOrderOfRules(t *testing.T) {
	for a := range allWrong {
		first := mistaken("500", a)
		for b := range allWrong {
			second := mistaken("500", b)
			if second.Tag == "600" {
				second.Tag = "700"
			}
			want := mistakeOf(a)
			if want == api.OK {
				want = mistakeOf(b)
			}
			wantRight(t, []api.TagRule{rule("500"), first, second}, want)
			wantRight(t, []api.TagRule{rule("500"), first, rule("650"), second}, want)
		}
	}
}
