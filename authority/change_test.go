package authority

import (
	"fmt"
	"slices"
	"strings"
	"testing"

	"library/api"
)

// with returns a copy of a file in which the authority with an ID is changed.
func with(l []api.Authority, id int, change func(a *api.Authority)) []api.Authority {
	file := copied(l)
	change(&file[indexOf(file, id)])
	return file
}

// P13.3: in the first place, between two and at the end.
func TestAdd(t *testing.T) {
	a := seen(auth(5, "Cats"), "Felines")
	wantAdd(t, nil, a, []api.Authority{a}, api.OK)
	wantAdd(t, []api.Authority{}, a, []api.Authority{a}, api.OK)
	x, y := auth(2, "x"), auth(8, "y", 2)
	wantAdd(t, []api.Authority{x}, a, []api.Authority{x, a}, api.OK)
	wantAdd(t, []api.Authority{auth(8, "z")}, a, []api.Authority{a, auth(8, "z")}, api.OK)
	wantAdd(t, []api.Authority{x, y}, a, []api.Authority{x, a, y}, api.OK)
	for _, id := range []int{1, 2, 5, 6, 9, 19, 22, 9997} {
		for _, b := range []api.Authority{seen(auth(id, "Cats", 3, 7), "Felines", "Tabbies"), kinded(seen(auth(id, "Cats"), "Beasts"), api.AuPerson), kinded(auth(id, "Zebras", 21), api.AuBody)} {
			want, err := addOf(various(), b)
			if err != api.OK {
				t.Fatalf("adding %s is error %d", short(b), err)
			}
			wantAdd(t, various(), b, want, api.OK)
		}
	}
	wantAdd(t, []api.Authority{auth(9998, "x")}, auth(9999, "y"), []api.Authority{auth(9998, "x"), auth(9999, "y")}, api.OK)
	wantAdd(t, []api.Authority{auth(2, "x")}, auth(1, "y", 2), []api.Authority{auth(1, "y", 2), auth(2, "x")}, api.OK)
	full := numbered(64)
	for i := range 64 {
		wantAdd(t, slices.Delete(numbered(64), i, i+1), full[i], full, api.OK)
	}
}

// P13.3: an ID that is there, and each error of Right.
func TestAddWrong(t *testing.T) {
	for _, a := range various() {
		wantAdd(t, various(), a, nil, api.ErrTwice)
		wantAdd(t, various(), auth(a.ID, "new"), nil, api.ErrTwice)
		// The ID counts before all else.
		wantAdd(t, various(), api.Authority{ID: a.ID, Kind: 9, Heading: "\n", Above: []int{2, 1}}, nil, api.ErrTwice)
	}
	wantAdd(t, numbered(64), auth(7, ""), nil, api.ErrTwice)
	long := strings.Repeat("x", 201)
	for _, c := range []struct {
		a    api.Authority
		want api.Errno
	}{
		{auth(0, "new"), api.ErrRange}, {auth(-1, "new"), api.ErrRange}, {auth(10000, "new"), api.ErrRange}, {auth(-1<<63, ""), api.ErrRange}, {kinded(auth(1<<63-1, ""), 0), api.ErrRange},
		{kinded(auth(5, "new"), 0), api.ErrArg}, {kinded(auth(5, "new"), 5), api.ErrArg}, {kinded(auth(5, "Dogs", 1), -1), api.ErrArg}, {api.Authority{ID: 5}, api.ErrArg},
		{auth(5, ""), api.ErrForm}, {auth(5, "a "), api.ErrForm}, {auth(5, "a--"), api.ErrForm}, {auth(5, "!"), api.ErrForm}, {auth(5, "a\n"), api.ErrForm}, {seen(auth(5, "Dogs"), "a "), api.ErrForm}, {seen(auth(5, "a"), "b", "c", ""), api.ErrForm},
		{auth(5, long), api.ErrLong}, {auth(5, "a--b--c--d--e"), api.ErrLong}, {seen(auth(5, "Dogs"), "b", long, ""), api.ErrLong},
		{seen(auth(5, "Dogs"), many("v", 9)...), api.ErrFull},
		{auth(5, "dogs"), api.ErrTwice}, {auth(5, "HOUNDS."), api.ErrTwice}, {seen(auth(5, "new"), "Fauna"), api.ErrTwice}, {seen(auth(5, "new"), "New!"), api.ErrTwice}, {auth(5, "Z", 1, 2, 4, 5, 6), api.ErrTwice}, {seen(auth(5, "new"), "x", "X", "y"), api.ErrTwice},
		{auth(5, "new", 1, 2, 3, 4, 6), api.ErrFull}, {auth(5, "new", 7, 3), api.ErrTwice}, {auth(5, "new", 3, 3), api.ErrTwice}, {auth(5, "new", 4), api.ErrNone}, {auth(5, "new", 6), api.ErrNone}, {auth(5, "new", 0), api.ErrNone}, {auth(5, "new", 5, 21), api.ErrNone},
		{auth(5, "new", 5), api.ErrLoop}, {auth(5, "new", 3, 5, 7), api.ErrLoop},
	} {
		wantAdd(t, various(), c.a, nil, c.want)
	}
	wantAdd(t, numbered(64), auth(65, "new"), nil, api.ErrFull)
	wantAdd(t, numbered(64), auth(0, ""), nil, api.ErrFull)
	wantAdd(t, numbered(64), kinded(auth(9999, "Theme 1"), 9), nil, api.ErrFull)
}

// P13.3: Remove of each authority of a file.
func TestRemove(t *testing.T) {
	for id := -1; id < 3; id++ {
		wantRemove(t, nil, id, nil, api.ErrNone)
		wantRemove(t, []api.Authority{}, id, nil, api.ErrNone)
	}
	one := []api.Authority{seen(auth(5, "a"), "b")}
	wantRemove(t, one, 5, nil, api.OK)
	for _, id := range []int{-1 << 63, -5, 0, 6, 9997, 10000, 1<<63 - 1} {
		wantRemove(t, one, id, nil, api.ErrNone)
		wantRemove(t, various(), id, nil, api.ErrNone)
	}
	// In Above of several, of one, and of none.
	for id, want := range map[int]api.Errno{3: api.ErrUsed, 7: api.ErrUsed, 20: api.ErrUsed, 21: api.ErrUsed, 4: api.OK, 8: api.OK, 9998: api.OK, 9999: api.OK} {
		var file []api.Authority
		if want == api.OK {
			file = slices.DeleteFunc(various(), func(a api.Authority) bool { return a.ID == id })
		}
		wantRemove(t, various(), id, file, want)
	}
	for n := 1; n <= 64; n++ {
		l := numbered(n)
		for i := range n {
			wantRemove(t, l, i+1, slices.Concat(l[:i], l[i+1:]), api.OK)
		}
	}
	// The last of four that are above another one, which stands before them or behind them.
	l := []api.Authority{auth(1, "a", 2, 3, 4, 5), auth(2, "b"), auth(3, "c"), auth(4, "d"), auth(5, "e"), auth(6, "f", 2, 3, 4, 5)}
	for id := 2; id <= 5; id++ {
		wantRemove(t, l, id, nil, api.ErrUsed)
		wantRemove(t, l[:5], id, nil, api.ErrUsed)
		wantRemove(t, l[1:], id, nil, api.ErrUsed)
		wantRemove(t, l[1:5], id, slices.DeleteFunc(copied(l[1:5]), func(a api.Authority) bool { return a.ID == id }), api.OK)
	}
	wantRemove(t, l, 1, l[1:], api.OK)
	wantRemove(t, l, 6, l[:5], api.OK)
}

// P13.4: new headings, variants, and headings with the Norm of the old one.
func TestRename(t *testing.T) {
	l := various()
	to := func(id int, s string, see ...string) {
		t.Helper()
		wantRename(t, l, id, s, with(l, id, func(a *api.Authority) { a.Heading, a.See = s, see }), api.OK)
	}
	// A new heading, without variants and with some.
	to(20, "Training of dogs", "Dogs--Training")
	to(3, "Creatures", "Beasts", "Fauna", "Animals")
	to(9999, "Striped horses", "Z", "Zebras")
	// One of the variants, written as it is and in other ways.
	to(3, "Beasts", "Fauna", "Animals")
	to(3, "Fauna", "Beasts", "Animals")
	to(3, "FAUNA!", "Beasts", "Animals")
	to(7, "Canis--Familiaris", "Hounds", "\u00c6gir's Stra\u00dfe", "Dogs")
	to(7, "hounds", "Canis--Familiaris", "\u00c6gir's Stra\u00dfe", "Dogs")
	to(7, "AEGIR, S (strasse)", "Hounds", "Canis--Familiaris", "Dogs")
	to(9999, "z", "Zebras")
	to(8, "Hounds", "Dogs")
	// The old one, written as it is and in other ways.
	to(3, "Animals", "Beasts", "Fauna")
	to(3, "ANIMALS (all)", "Beasts", "Fauna", "Animals")
	to(3, "ANIMALS", "Beasts", "Fauna")
	to(20, "Dogs--(Training)")
	to(4, "Darwin; Charles--1809", "Dogs", "Darwin, C.", "Darwin, Charles, 1809-1882")
	to(4, "darwin CHARLES 1809 1882", "Dogs", "Darwin, C.")
	// One that an authority of another kind has.
	to(21, "Dogs", "Animals")
	to(9998, "Dogs--Training", "Dogs club")
	to(8, "Animals", "Hounds", "Dogs")
	// What is a heading, if it is none of a subject.
	to(4, "--Charles--", "Dogs", "Darwin, C.", "Darwin, Charles, 1809-1882")
	to(3, strings.Repeat("x", 200), "Beasts", "Fauna", "Animals")
	to(3, "a--b--c--d", "Beasts", "Fauna", "Animals")
}

// P13.4: an authority with as many variants as there can be.
func TestRenameFull(t *testing.T) {
	for n := range 9 {
		see := many("Variant", n)
		l := []api.Authority{auth(1, "x"), seen(auth(2, "Theme"), see...), auth(3, "y", 2)}
		if n < 8 {
			wantRename(t, l, 2, "New", with(l, 2, func(a *api.Authority) { a.Heading, a.See = "New", append(a.See, "Theme") }), api.OK)
		} else {
			wantRename(t, l, 2, "New", nil, api.ErrFull)
			wantRename(t, l, 2, "X", nil, api.ErrFull)
			wantRename(t, l, 2, "New ", nil, api.ErrForm)
			wantRename(t, l, 2, strings.Repeat("n", 201), nil, api.ErrLong)
		}
		wantRename(t, l, 2, "THEME", with(l, 2, func(a *api.Authority) { a.Heading = "THEME" }), api.OK)
		for i := range n {
			s := fmt.Sprint("variant, ", i)
			rest := slices.Concat(see[:i], see[i+1:], []string{"Theme"})
			wantRename(t, l, 2, s, with(l, 2, func(a *api.Authority) { a.Heading, a.See = s, rest }), api.OK)
		}
	}
}

// P13.4: errors.
func TestRenameWrong(t *testing.T) {
	for _, id := range []int{-1 << 63, -1, 0, 1, 2, 5, 22, 9997, 10000, 1<<63 - 1} {
		for _, s := range []string{"New", "", "\n", "Dogs", strings.Repeat("x", 201)} {
			wantRename(t, various(), id, s, nil, api.ErrNone)
			wantRename(t, nil, id, s, nil, api.ErrNone)
		}
	}
	for s, want := range map[string]api.Errno{
		"": api.ErrForm, " ": api.ErrForm, "!": api.ErrForm, "--": api.ErrForm, "a ": api.ErrForm, " Beasts": api.ErrForm, "Animals ": api.ErrForm, "a  b": api.ErrForm, "a\u00a0b": api.ErrForm, "\n": api.ErrForm, "Beasts\n": api.ErrForm, "\xff": api.ErrForm, "\U00010000": api.ErrForm,
		"--Beasts": api.ErrForm, "Animals--": api.ErrForm, "a -- b": api.ErrForm,
		strings.Repeat("x", 201): api.ErrLong, "a--b--c--d--e": api.ErrLong, "Beasts" + strings.Repeat("!", 200): api.ErrLong,
		"Dogs": api.ErrTwice, "hounds": api.ErrTwice, "canis--familiaris": api.ErrTwice, "DOGS--TRAINING": api.ErrTwice, "Zebras": api.ErrTwice, "z": api.ErrTwice,
	} {
		wantRename(t, various(), 3, s, nil, want)
	}
	wantRename(t, various(), 9999, "beasts", nil, api.ErrTwice)
	wantRename(t, various(), 7, "Animals", nil, api.ErrTwice)
	wantRename(t, various(), 8, "Animals ", nil, api.ErrForm)
}

// P13.5: variants of both, in the order of their places and against it.
func TestMerge(t *testing.T) {
	a, b := auth(2, "Dogs"), auth(5, "Hounds")
	av, bv := seen(a, "Curs", "Mutts"), seen(b, "Whelps", "Tykes")
	wantMerge(t, []api.Authority{a, b}, 2, 5, []api.Authority{seen(a, "Hounds")}, api.OK)
	wantMerge(t, []api.Authority{a, b}, 5, 2, []api.Authority{seen(b, "Dogs")}, api.OK)
	wantMerge(t, []api.Authority{av, b}, 2, 5, []api.Authority{seen(a, "Curs", "Mutts", "Hounds")}, api.OK)
	wantMerge(t, []api.Authority{av, b}, 5, 2, []api.Authority{seen(b, "Dogs", "Curs", "Mutts")}, api.OK)
	wantMerge(t, []api.Authority{a, bv}, 2, 5, []api.Authority{seen(a, "Hounds", "Whelps", "Tykes")}, api.OK)
	wantMerge(t, []api.Authority{av, bv}, 2, 5, []api.Authority{seen(a, "Curs", "Mutts", "Hounds", "Whelps", "Tykes")}, api.OK)
	wantMerge(t, []api.Authority{av, bv}, 5, 2, []api.Authority{seen(b, "Whelps", "Tykes", "Dogs", "Curs", "Mutts")}, api.OK)
	others := []api.Authority{auth(1, "w"), auth(3, "x"), auth(8, "y", 1)}
	wantMerge(t, []api.Authority{others[0], av, others[1], bv, others[2]}, 2, 5, []api.Authority{others[0], seen(a, "Curs", "Mutts", "Hounds", "Whelps", "Tykes"), others[1], others[2]}, api.OK)
	wantMerge(t, []api.Authority{others[0], av, others[1], bv, others[2]}, 5, 2, []api.Authority{others[0], others[1], seen(b, "Whelps", "Tykes", "Dogs", "Curs", "Mutts"), others[2]}, api.OK)
}

// P13.5: what refers to the authority that becomes a variant.
func TestMergeAbove(t *testing.T) {
	into, from := auth(10, "Into"), auth(20, "From")
	back := func(a api.Authority) []api.Authority {
		return []api.Authority{auth(5, "e"), auth(6, "f"), into, auth(15, "o"), from, auth(25, "y"), a}
	}
	without := func(a api.Authority) []api.Authority {
		return []api.Authority{auth(5, "e"), auth(6, "f"), seen(into, "From"), auth(15, "o"), auth(25, "y"), a}
	}
	reverse := func(a api.Authority) []api.Authority {
		return []api.Authority{auth(5, "e"), auth(6, "f"), auth(15, "o"), seen(from, "Into"), auth(25, "y"), a}
	}
	for _, c := range []struct{ before, turned, turnedBack []int }{
		{nil, nil, nil}, {[]int{5, 25}, []int{5, 25}, []int{5, 25}},
		{[]int{20}, []int{10}, []int{20}}, {[]int{10}, []int{10}, []int{20}}, {[]int{10, 20}, []int{10}, []int{20}},
		{[]int{5, 20}, []int{5, 10}, []int{5, 20}}, {[]int{15, 20}, []int{10, 15}, []int{15, 20}}, {[]int{20, 25}, []int{10, 25}, []int{20, 25}},
		{[]int{10, 15}, []int{10, 15}, []int{15, 20}}, {[]int{10, 25}, []int{10, 25}, []int{20, 25}}, {[]int{5, 10}, []int{5, 10}, []int{5, 20}},
		{[]int{5, 6, 15, 20}, []int{5, 6, 10, 15}, []int{5, 6, 15, 20}}, {[]int{5, 15, 20, 25}, []int{5, 10, 15, 25}, []int{5, 15, 20, 25}}, {[]int{5, 10, 15, 25}, []int{5, 10, 15, 25}, []int{5, 15, 20, 25}},
		{[]int{10, 15, 20}, []int{10, 15}, []int{15, 20}}, {[]int{5, 10, 20, 25}, []int{5, 10, 25}, []int{5, 20, 25}}, {[]int{10, 15, 20, 25}, []int{10, 15, 25}, []int{15, 20, 25}}, {[]int{5, 6, 10, 20}, []int{5, 6, 10}, []int{5, 6, 20}},
	} {
		wantMerge(t, back(auth(30, "Third", c.before...)), 10, 20, without(auth(30, "Third", c.turned...)), api.OK)
		wantMerge(t, back(auth(30, "Third", c.before...)), 20, 10, reverse(auth(30, "Third", c.turnedBack...)), api.OK)
	}
	// Several refer to it, before both, between them and behind them.
	l := []api.Authority{auth(5, "e", 20), auth(6, "f", 10, 20), into, auth(15, "o", 20, 30), from, auth(25, "y", 5, 20), auth(30, "z")}
	wantMerge(t, l, 10, 20, []api.Authority{auth(5, "e", 10), auth(6, "f", 10), seen(into, "From"), auth(15, "o", 10, 30), auth(25, "y", 5, 10), auth(30, "z")}, api.OK)
	wantMerge(t, l, 20, 10, []api.Authority{auth(5, "e", 20), auth(6, "f", 20), auth(15, "o", 20, 30), seen(from, "Into"), auth(25, "y", 5, 20), auth(30, "z")}, api.OK)
}

// P13.5: one of both is above the other one, directly or not, and what is above both.
func TestMergeOwnAbove(t *testing.T) {
	top, side := auth(1, "Top"), auth(15, "Side")
	// From in Above of into is left out; what else is there stays.
	for _, c := range []struct{ before, after []int }{{[]int{20}, nil}, {[]int{1, 20}, []int{1}}, {[]int{15, 20}, []int{15}}, {[]int{1, 15, 20}, []int{1, 15}}, {[]int{1, 15}, []int{1, 15}}} {
		l := []api.Authority{top, auth(10, "Into", c.before...), side, auth(20, "From")}
		wantMerge(t, l, 10, 20, []api.Authority{top, seen(auth(10, "Into", c.after...), "From"), side}, api.OK)
		l = []api.Authority{top, auth(12, "From"), side, auth(18, "Into", replaced(c.before, 20, 12)...)}
		wantMerge(t, l, 18, 12, []api.Authority{top, side, seen(auth(18, "Into", c.after...), "From")}, api.OK)
	}
	// Into in Above of from, and all else there, is dropped.
	for _, above := range [][]int{{10}, {1, 10}, {1, 10, 15}, {15}, {1, 15}} {
		l := []api.Authority{top, auth(10, "Into"), side, auth(20, "From", above...), auth(30, "Low", 20)}
		wantMerge(t, l, 10, 20, []api.Authority{top, seen(auth(10, "Into"), "From"), side, auth(30, "Low", 10)}, api.OK)
	}
	// From is above into over another one: a loop, unless it is the one that drops its Above.
	l := []api.Authority{auth(10, "Into", 15), auth(15, "Middle", 20), auth(20, "From")}
	wantMerge(t, l, 10, 20, nil, api.ErrLoop)
	wantMerge(t, l, 20, 10, []api.Authority{auth(15, "Middle", 20), seen(auth(20, "From"), "Into")}, api.OK)
	l = []api.Authority{auth(10, "Into", 15, 20), auth(15, "Middle", 20), auth(20, "From")}
	wantMerge(t, l, 10, 20, nil, api.ErrLoop)
	l = []api.Authority{auth(10, "Into", 15), auth(15, "Middle", 18), auth(18, "Higher", 20), auth(20, "From", 25), auth(25, "Top")}
	wantMerge(t, l, 10, 20, nil, api.ErrLoop)
	wantMerge(t, l, 20, 10, []api.Authority{auth(15, "Middle", 18), auth(18, "Higher", 20), seen(auth(20, "From", 25), "Into"), auth(25, "Top")}, api.OK)
	wantMerge(t, l, 10, 15, []api.Authority{seen(auth(10, "Into"), "Middle"), auth(18, "Higher", 20), auth(20, "From", 25), auth(25, "Top")}, api.OK)
}

// replaced returns a list in order in which one number stands for another one.
func replaced(l []int, old, n int) []int {
	l = slices.Clone(l)
	for i := range l {
		if l[i] == old {
			l[i] = n
		}
	}
	slices.Sort(l)
	return l
}

// P13.5: numbers of variants.
func TestMergeFull(t *testing.T) {
	for n := range 9 {
		for m := range 9 {
			a, b := seen(auth(2, "Dogs"), many("Dog", n)...), seen(auth(5, "Hounds"), many("Hound", m)...)
			want := []api.Authority{seen(a, slices.Concat(a.See, []string{"Hounds"}, b.See)...)}
			err := api.OK
			if n+1+m > 8 {
				want, err = nil, api.ErrFull
			}
			wantMerge(t, []api.Authority{a, b}, 2, 5, want, err)
			// Too many variants come before a loop.
			loop := []api.Authority{a, auth(3, "x", 5), b}
			loop[0].Above = []int{3}
			if err == api.OK {
				wantMerge(t, loop, 2, 5, nil, api.ErrLoop)
			} else {
				wantMerge(t, loop, 2, 5, nil, api.ErrFull)
			}
		}
	}
}

// P13.5: arguments that are equal, missing, or of different kinds.
func TestMergeWrong(t *testing.T) {
	ids := []int{-1 << 63, -1, 0, 1, 3, 4, 5, 7, 8, 20, 21, 30, 9998, 9999, 10000, 1<<63 - 1}
	for _, into := range ids {
		for _, from := range ids {
			i, j := indexOf(various(), into), indexOf(various(), from)
			switch {
			case i < 0 || j < 0:
				wantMerge(t, various(), into, from, nil, api.ErrNone)
			case i == j || various()[i].Kind != various()[j].Kind:
				wantMerge(t, various(), into, from, nil, api.ErrArg)
			default:
				want, err := mergeOf(various(), into, from)
				wantMerge(t, various(), into, from, want, err)
			}
			wantMerge(t, nil, into, from, nil, api.ErrNone)
		}
	}
	for kind := 1; kind <= 4; kind++ {
		for with := 1; with <= 4; with++ {
			l := []api.Authority{kinded(auth(1, "a"), kind), kinded(auth(2, "b"), with)}
			if kind == with {
				wantMerge(t, l, 1, 2, []api.Authority{seen(l[0], "b")}, api.OK)
			} else {
				wantMerge(t, l, 1, 2, nil, api.ErrArg)
			}
		}
	}
}

// P13.6: none, one and many, instead of none, one and many.
func TestSetAbove(t *testing.T) {
	lists := [][]int{nil, {}, {1}, {7}, {1, 2}, {2, 7}, {1, 2, 3}, {1, 2, 3, 7}, {3, 4, 5, 7}}
	for _, old := range lists {
		for _, above := range lists {
			l := numbered(7)
			l[5].Above = old
			want := numbered(7)
			want[5].Above = above
			wantSetAbove(t, l, 6, above, want, api.OK)
		}
	}
	l := numbered(64)
	for i := range l {
		want := numbered(64)
		want[i].Above = []int{(i+1)%64 + 1}
		wantSetAbove(t, l, i+1, want[i].Above, want, api.OK)
	}
	// The other direction becomes possible when the first one is gone.
	two := []api.Authority{auth(1, "a"), auth(2, "b", 1)}
	wantSetAbove(t, two, 1, []int{2}, nil, api.ErrLoop)
	free, _ := SetAbove(two, 2, nil)
	wantSetAbove(t, free, 1, []int{2}, []api.Authority{auth(1, "a", 2), auth(2, "b")}, api.OK)
}

// P13.6: lists that Right rejects, and IDs that are not there.
func TestSetAboveWrong(t *testing.T) {
	chain := []api.Authority{auth(1, "a"), auth(2, "b", 1), auth(3, "c", 2), auth(4, "d", 3), auth(5, "e", 4), kinded(auth(6, "f"), api.AuBody), auth(7, "g")}
	for _, c := range []struct {
		id    int
		above []int
		want  api.Errno
	}{
		{7, []int{1, 2, 3, 4, 5}, api.ErrFull}, {7, []int{7, 7, 7, 7, 7}, api.ErrFull}, {7, make([]int, 1000), api.ErrFull},
		{7, []int{1, 1}, api.ErrTwice}, {7, []int{2, 1}, api.ErrTwice}, {7, []int{7, 1}, api.ErrTwice}, {7, []int{9, 0}, api.ErrTwice}, {7, []int{1, 2, 3, 3}, api.ErrTwice},
		{7, []int{0}, api.ErrNone}, {7, []int{-1}, api.ErrNone}, {7, []int{8}, api.ErrNone}, {7, []int{6}, api.ErrNone}, {7, []int{6, 7}, api.ErrNone}, {7, []int{1, 2, 3, 9999}, api.ErrNone}, {6, []int{1}, api.ErrNone}, {6, []int{5, 6}, api.ErrNone},
		{7, []int{7}, api.ErrLoop}, {7, []int{1, 7}, api.ErrLoop}, {6, []int{6}, api.ErrLoop},
		{1, []int{1}, api.ErrLoop}, {1, []int{2}, api.ErrLoop}, {1, []int{3}, api.ErrLoop}, {1, []int{5}, api.ErrLoop}, {1, []int{5, 7}, api.ErrLoop}, {3, []int{5}, api.ErrLoop}, {4, []int{1, 5}, api.ErrLoop}, {4, []int{3, 4}, api.ErrLoop},
	} {
		wantSetAbove(t, chain, c.id, c.above, nil, c.want)
	}
	for _, id := range []int{-1 << 63, -1, 0, 8, 9999, 10000, 1<<63 - 1} {
		for _, above := range [][]int{nil, {1}, {2, 1}, {0}, {id}, {1, 2, 3, 4, 5}} {
			wantSetAbove(t, chain, id, above, nil, api.ErrNone)
			wantSetAbove(t, nil, id, above, nil, api.ErrNone)
		}
	}
	wantSetAbove(t, chain, 1, []int{7}, with(chain, 1, func(a *api.Authority) { a.Above = []int{7} }), api.OK)
	wantSetAbove(t, chain, 2, nil, with(chain, 2, func(a *api.Authority) { a.Above = nil }), api.OK)
}
