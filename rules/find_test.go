package rules

import (
	"fmt"
	"math/rand"
	"slices"
	"strings"
	"testing"

	"library/api"
)

// wantFind compares Find with what it must return, and checks that the rules stay as they were.
func wantFind(t *testing.T, l []api.TagRule, tag string) {
	t.Helper()
	given := roomyRules(l)
	same := rulesKeeper(given)
	got, ok := Find(given, tag)
	var want api.TagRule
	i := slices.IndexFunc(l, func(r api.TagRule) bool { return r.Tag == tag })
	if i >= 0 {
		want = l[i]
	}
	if got != want || ok != (i >= 0) {
		t.Errorf("Find of %q is %s, %v; rule %d is %s", short(tag), shownRules([]api.TagRule{got}), ok, i, shownRules([]api.TagRule{want}))
	}
	if !same() {
		t.Errorf("Find of %q changes what it was given", short(tag))
	}
}

// P9.3: the chapter's first example.
func TestFindExample(t *testing.T) {
	r, ok := Find(Standard(), "245")
	if !ok || !r.Must || r.Repeat || r.Codes != "abcnp" || r.Tag != "245" || r.Once != "ac" || r.Needs != "a" || r.Auth != 0 {
		t.Errorf("Find of 245 is %s, %v", shownRules([]api.TagRule{r}), ok)
	}
	if r, ok := Find(Standard(), "999"); ok || r != (api.TagRule{}) {
		t.Errorf("Find of 999 is %s, %v", shownRules([]api.TagRule{r}), ok)
	}
}

// P9.3: every tag of three digits, those of the table and those beside them, and texts that are no tags.
func TestFindStandard(t *testing.T) {
	table := documentRules()
	found := 0
	for n := range 1000 {
		tag := fmt.Sprintf("%03d", n)
		wantFind(t, Standard(), tag)
		if r, ok := Find(Standard(), tag); ok {
			found++
			if !slices.Contains(table, r) || r.Tag != tag {
				t.Errorf("Find of %s is %s", tag, shownRules([]api.TagRule{r}))
			}
		}
	}
	if found != len(table) {
		t.Errorf("Find finds %d tags, not %d", found, len(table))
	}
	for _, r := range table {
		if got, ok := Find(Standard(), r.Tag); got != r || !ok {
			t.Errorf("Find of %s is %s, %v", r.Tag, shownRules([]api.TagRule{got}), ok)
		}
		for _, tag := range []string{r.Tag + " ", " " + r.Tag, r.Tag + "0", "0" + r.Tag, r.Tag[:2], r.Tag[1:], r.Tag[:1], r.Tag + r.Tag, r.Tag + "\x00", strings.Repeat(r.Tag, 1000)} {
			if got, ok := Find(Standard(), tag); got != (api.TagRule{}) || ok {
				t.Errorf("Find of %q is %s, %v", short(tag), shownRules([]api.TagRule{got}), ok)
			}
			wantFind(t, Standard(), tag)
		}
	}
	for _, tag := range oddTags {
		wantFind(t, Standard(), tag)
	}
}

// P9.3: no rules.
func TestFindNothing(t *testing.T) {
	for _, l := range [][]api.TagRule{nil, {}, roomyRules(nil)} {
		for _, tag := range append(ruleTags(), oddTags...) {
			if r, ok := Find(l, tag); ok || r != (api.TagRule{}) {
				t.Errorf("Find of %q in no rules is %s, %v", tag, shownRules([]api.TagRule{r}), ok)
			}
		}
	}
}

// numbered returns a rule that tells by its parts which one it is; it need not be valid.
func numbered(tag string, n int) api.TagRule {
	return api.TagRule{Tag: tag, Repeat: n&1 == 0, Must: n&2 == 0, Codes: fmt.Sprint("codes ", n), Once: fmt.Sprint("once ", n), Needs: fmt.Sprint("needs ", n), Auth: n}
}

// P9.3: rules with the same tag several times, in any order; the first one counts.
func TestFindFirst(t *testing.T) {
	choice := []string{"245", "100", ""}
	count := 1
	for n := range 7 {
		for code := range count {
			var l []api.TagRule
			for i := range n {
				l = append(l, numbered(choice[code%3], i))
				code /= 3
			}
			for _, tag := range append(choice, "24", "999", "10", "1") {
				wantFind(t, l, tag)
			}
		}
		count *= 3
	}
}

// P9.3: each place of lists of rules in ascending, descending and mixed order, which may be longer than MaxRules; with tags of all kinds.
func TestFindPlaces(t *testing.T) {
	random := rand.New(rand.NewSource(93))
	for _, n := range []int{1, 2, 3, 32, 33, 100, 1000} {
		for _, order := range []func(l []api.TagRule){
			func(l []api.TagRule) {},
			slices.Reverse[[]api.TagRule],
			func(l []api.TagRule) { random.Shuffle(len(l), func(i, j int) { l[i], l[j] = l[j], l[i] }) },
		} {
			var l []api.TagRule
			for i := range n {
				l = append(l, numbered(fmt.Sprintf("%03d", i*(1000/n)), i))
			}
			order(l)
			for i := range n {
				wantFind(t, l, fmt.Sprintf("%03d", i*(1000/n)))
			}
			for _, tag := range append(ruleTags(), oddTags...) {
				wantFind(t, l, tag)
			}
		}
	}
	var l []api.TagRule
	for i, tag := range append(append(slices.Clone(oddTags), ruleTags()...), oddTags...) {
		l = append(l, numbered(tag, i))
	}
	for _, tag := range append(ruleTags(), oddTags...) {
		wantFind(t, l, tag)
		if _, ok := Find(l, tag); !ok {
			t.Errorf("Find of %q finds nothing", tag)
		}
	}
}
