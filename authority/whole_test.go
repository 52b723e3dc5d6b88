package authority

import (
	"fmt"
	"math/rand"
	"slices"
	"strings"
	"testing"

	"library/api"
)

// randomID returns an ID in or near a file.
func randomID(r *rand.Rand, l []api.Authority) int {
	if len(l) == 0 || r.Intn(10) == 0 {
		return r.Intn(40) - 2
	}
	return l[r.Intn(len(l))].ID
}

// randomName returns a heading of a file, perhaps written in another way, or another string.
func randomName(r *rand.Rand, l []api.Authority) string {
	switch {
	case r.Intn(20) == 0:
		return []string{"", " ", "--", "!", "a ", "a--", "\n", "\xff", "a -- b", strings.Repeat("x", 201), "a--b--c--d--e"}[r.Intn(11)]
	case len(l) > 0 && r.Intn(2) == 0:
		names := all(l[r.Intn(len(l))])
		return styled(r, names[r.Intn(len(names))])
	}
	return randomHeading(r, 60)
}

// randomAbove returns a list of IDs in or near a file.
func randomAbove(r *rand.Rand, l []api.Authority) []int {
	var above []int
	for range r.Intn(4) {
		above = append(above, randomID(r, l))
	}
	if r.Intn(10) > 0 {
		slices.Sort(above)
		above = slices.Compact(above)
	}
	return above
}

// step does one random operation, checks it against the description, and returns the file after it.
func step(t *testing.T, r *rand.Rand, l []api.Authority, counts map[string]int) []api.Authority {
	var want []api.Authority
	var err api.Errno
	var name string
	switch r.Intn(6) {
	case 0:
		a := api.Authority{ID: r.Intn(60) - 1, Kind: 3 - r.Intn(2)*r.Intn(2), Heading: randomName(r, l), Above: randomAbove(r, l)}
		for range r.Intn(3) {
			a.See = append(a.See, randomName(r, l))
		}
		name = "Add"
		want, err = addOf(l, a)
		wantAdd(t, l, a, want, err)
	case 1:
		id := randomID(r, l)
		name = "Remove"
		want, err = removeOf(l, id)
		wantRemove(t, l, id, want, err)
	case 2, 3:
		id, s := randomID(r, l), randomName(r, l)
		name = "Rename"
		want, err = renameOf(l, id, s)
		wantRename(t, l, id, s, want, err)
	case 4:
		into, from := randomID(r, l), randomID(r, l)
		name = "Merge"
		want, err = mergeOf(l, into, from)
		wantMerge(t, l, into, from, want, err)
	default:
		id, above := randomID(r, l), randomAbove(r, l)
		name = "SetAbove"
		want, err = setAboveOf(l, id, above)
		wantSetAbove(t, l, id, above, want, err)
	}
	counts[fmt.Sprint(name, " ", int(err))]++
	if err != api.OK {
		return l
	}
	return want
}

// P13.3 to P13.6, P13.8, P13.9: random operations one after the other, against the description.
func TestOperations(t *testing.T) {
	r := rand.New(rand.NewSource(2))
	counts := map[string]int{}
	for range 300 {
		l := randomFile(r, 20)
		for range 25 {
			l = step(t, r, l, counts)
			if rightOf(l) != api.OK {
				t.Fatalf("not right:%s", shown(l))
			}
		}
		wantInverse(t, l)
		for range 10 {
			kind, s := r.Intn(6), randomName(r, l)
			// Of strings that are no texts Find promises nothing but an end.
			if s != "\n" && s != "\xff" {
				id, preferred, ok := findOf(l, kind, s)
				wantFind(t, l, kind, s, id, preferred, ok)
			}
			id := randomID(r, l)
			above, below := waysOf(l, id)
			wantWays(t, l, id, above, below)
		}
	}
	for _, s := range []string{"Add 0", "Add 2", "Add 3", "Add 7", "Add 9", "Remove 0", "Remove 9", "Remove 10", "Rename 0", "Rename 3", "Rename 4", "Rename 7", "Rename 9", "Rename 13", "Merge 0", "Merge 1", "Merge 9", "Merge 11", "Merge 13", "SetAbove 0", "SetAbove 7", "SetAbove 9", "SetAbove 11"} {
		if counts[s] < 5 {
			t.Errorf("operation and error %s appear only %d times: %v", s, counts[s], counts)
		}
	}
}

// P13.8: every authority of many files renamed to headings of all, and merged into every other one.
func TestEachPair(t *testing.T) {
	r := rand.New(rand.NewSource(3))
	for range 80 {
		l := randomFile(r, 8)
		for _, a := range l {
			for _, b := range l {
				want, err := mergeOf(l, a.ID, b.ID)
				wantMerge(t, l, a.ID, b.ID, want, err)
				want, err = setAboveOf(l, a.ID, []int{b.ID})
				wantSetAbove(t, l, a.ID, []int{b.ID}, want, err)
				for _, s := range all(b) {
					s = styled(r, s)
					want, err = renameOf(l, a.ID, s)
					wantRename(t, l, a.ID, s, want, err)
				}
			}
			want, err := removeOf(l, a.ID)
			wantRemove(t, l, a.ID, want, err)
		}
	}
}

// callAll calls every function, and reports only a panic.
func callAll(l []api.Authority, a api.Authority, id, other int, s string, above []int) {
	Right(l)
	Get(l, id)
	Find(l, other, s)
	Add(l, a)
	Rename(l, id, s)
	Merge(l, id, other)
	Remove(l, id)
	SetAbove(l, id, above)
	Above(l, id)
	Below(l, id)
}

// Files that are not right, and arguments of every kind: no function panics, all end, and none changes what it has been given.
func TestInvalid(t *testing.T) {
	r := rand.New(rand.NewSource(4))
	numbers := []int{-1 << 63, -1, 0, 1, 2, 3, 4, 5, 9999, 10000, 1<<63 - 1}
	words := []string{"", "a", "A", "b", "--", "a--b", "\xff", "\n", "a ", strings.Repeat("x", 300)}
	some := func() []int {
		var l []int
		for range r.Intn(7) {
			l = append(l, numbers[r.Intn(len(numbers))])
		}
		return l
	}
	wild := func() api.Authority {
		a := api.Authority{ID: numbers[r.Intn(len(numbers))], Kind: numbers[r.Intn(len(numbers))], Heading: words[r.Intn(len(words))], Above: some()}
		for range r.Intn(12) {
			a.See = append(a.See, words[r.Intn(len(words))])
		}
		return a
	}
	for range 20000 {
		var l []api.Authority
		for range r.Intn(9) {
			l = append(l, wild())
		}
		file, above := roomy(l), some()
		before, list := deep(file), slices.Clone(above)
		callAll(file, wild(), numbers[r.Intn(len(numbers))], numbers[r.Intn(len(numbers))], words[r.Intn(len(words))], above)
		for id := range 6 {
			Above(file, id)
			Below(file, id)
		}
		if !equalFiles(deep(file), before) || !slices.Equal(above, list) {
			t.Fatalf("changed:%s\nto%s", shown(before), shown(file))
		}
	}
}

// Loops and long ways in files that are not right.
func TestInvalidWays(t *testing.T) {
	loop := []api.Authority{auth(1, "a", 2), auth(2, "b", 3), auth(3, "c", 1)}
	callAll(loop, auth(4, "d", 1), 1, 2, "x", []int{3})
	callAll([]api.Authority{auth(1, "a", 1)}, auth(1, "a", 1), 1, 1, "x", []int{1})
	callAll([]api.Authority{auth(1, "a", 1), auth(1, "b", 1, 1)}, auth(1, "a", 1), 1, 1, "x", []int{1, 1})
	callAll([]api.Authority{auth(2, "a", 9, 9, 1), auth(1, "b", 2)}, auth(1, "a", 1), 1, 2, "x", []int{1, 1})
	const n = 100000
	var chain []api.Authority
	for i := range n {
		chain = append(chain, auth(i+1, "a", i, i+2))
	}
	chain[n-1].Above = []int{1}
	within(t, "a long loop", func() { callAll(chain, auth(n+1, "b"), n/2, n, "c", []int{1}) })
	var wide []int
	for i := range n {
		wide = append(wide, i%50)
	}
	var dense []api.Authority
	for i := range 20 {
		dense = append(dense, auth(i, "a", wide...))
	}
	within(t, "long lists above", func() { callAll(dense, auth(30, "b", wide...), 7, 9, "c", wide) })
}

// Long strings, and many of them.
func TestInvalidLong(t *testing.T) {
	for _, unit := range []string{"a", "-", "--", "a--", "a ", "\xff", "\u00df", "\uffff"} {
		s := strings.Repeat(unit, 1<<17)
		within(t, fmt.Sprintf("many %q", unit), func() {
			callAll([]api.Authority{seen(auth(1, s), s)}, seen(auth(2, s), s), 1, 3, s, nil)
			callAll([]api.Authority{seen(kinded(auth(1, "x"), 1), s)}, seen(auth(2, "y"), s), 1, 1, s, nil)
		})
	}
	see := many("Variant", 100000)
	within(t, "many variants", func() {
		callAll([]api.Authority{seen(auth(1, "x"), see...)}, seen(auth(2, "y"), see...), 1, 3, "Variant 7", nil)
	})
	wantRight(t, []api.Authority{seen(auth(1, "x"), see...)}, api.ErrFull)
	wantRight(t, []api.Authority{seen(auth(1, "x"), append(slices.Clone(see), "")...)}, api.ErrForm)
}
