package authority

import (
	"fmt"
	"math/rand"
	"strings"
	"testing"

	"library/api"
	"library/heading"
)

// various returns a right file with all kinds, with and without variants and others above.
func various() []api.Authority {
	return []api.Authority{
		seen(auth(3, "Animals"), "Beasts", "Fauna"),
		kinded(seen(auth(4, "Darwin, Charles, 1809-1882"), "Dogs", "Darwin, C."), api.AuPerson),
		seen(auth(7, "Dogs", 3), "Hounds", "Canis--Familiaris", "\u00c6gir's Stra\u00dfe"),
		kinded(seen(auth(8, "Dogs"), "Hounds"), api.AuSeries),
		auth(20, "Dogs--Training", 3, 7),
		kinded(auth(21, "Animals"), api.AuBody),
		kinded(auth(9998, "Dogs club", 21), api.AuBody),
		seen(auth(9999, "Zebras", 3, 20), "Z"),
	}
}

// P13.2: every ID near those of a file.
func TestGet(t *testing.T) {
	wantRight(t, various(), api.OK)
	none := api.Authority{}
	for _, id := range []int{-1 << 63, -1, 0, 1, 2, 9999, 10000, 1<<63 - 1} {
		wantGet(t, nil, id, none, false)
		wantGet(t, []api.Authority{}, id, none, false)
		wantGet(t, []api.Authority{auth(5, "a")}, id, none, false)
	}
	one := seen(kinded(auth(5, "a"), api.AuBody), "b", "c")
	wantGet(t, []api.Authority{one}, 4, none, false)
	wantGet(t, []api.Authority{one}, 5, one, true)
	wantGet(t, []api.Authority{one}, 6, none, false)
	for id := -3; id <= 10003; id++ {
		i := indexOf(various(), id)
		switch {
		case i >= 0:
			wantGet(t, various(), id, various()[i], true)
		case id < 30 || id > 9990:
			wantGet(t, various(), id, none, false)
		default:
			if _, ok := Get(various(), id); ok {
				t.Errorf("Get finds %d", id)
			}
		}
	}
	for n := range 65 {
		l := numbered(n)
		for i := range l {
			l[i].ID = 2*i + 2
		}
		for id := range 2*n + 4 {
			if i := indexOf(l, id); i >= 0 {
				wantGet(t, l, id, l[i], true)
			} else {
				wantGet(t, l, id, none, false)
			}
		}
	}
}

// P13.2: all headings of a file, written in other ways.
func TestFind(t *testing.T) {
	for _, a := range various() {
		for i, s := range all(a) {
			for _, way := range []string{s, strings.ToUpper(s), strings.ToLower(s), "  " + s + "\u00a0 ", "(" + s + ")!", strings.ReplaceAll(s, " ", " \u00a0  "), strings.ReplaceAll(s, "o", "\u00f6"), strings.ReplaceAll(s, "--", " ---- !--"), "--" + s + "--", s + strings.Repeat("!", 300), s + "--...--?--;--:--"} {
				if heading.Norm(way) != heading.Norm(s) {
					t.Fatalf("%q is another heading than %q", way, s)
				}
				wantFind(t, various(), a.Kind, way, a.ID, i == 0, true)
			}
		}
	}
	wantFind(t, various(), api.AuSubject, "aegirs strasse", 0, false, false)
	wantFind(t, various(), api.AuSubject, "aegir s strasse", 7, false, true)
	wantFind(t, various(), api.AuSubject, "canis familiaris", 0, false, false)
	wantFind(t, various(), api.AuSubject, "Familiaris--Canis", 0, false, false)
	wantFind(t, various(), api.AuSubject, "CANIS -- familiaris.", 7, false, true)
	wantFind(t, various(), api.AuPerson, "darwin charles 1809 1882", 4, true, true)
}

// P13.2: each kind has its own headings.
func TestFindKinds(t *testing.T) {
	for _, s := range []string{"Dogs", "hounds", "Animals", "Beasts", "Dogs club", "Dogs--Training", "Z", "zebras", "Darwin, C", "none"} {
		for _, kind := range []int{-1 << 63, -3, -1, 0, 1, 2, 3, 4, 5, 6, 7, 1 << 32, 1<<32 + 3, 1<<63 - 1} {
			id, preferred, ok := findOf(various(), kind, s)
			if (kind < 1 || kind > 4) && ok {
				t.Fatalf("the description finds %q of kind %d", s, kind)
			}
			wantFind(t, various(), kind, s, id, preferred, ok)
			wantFind(t, nil, kind, s, 0, false, false)
		}
	}
	wantFind(t, various(), api.AuPerson, "dogs", 4, false, true)
	wantFind(t, various(), api.AuBody, "dogs", 0, false, false)
	wantFind(t, various(), api.AuSubject, "dogs", 7, true, true)
	wantFind(t, various(), api.AuSeries, "dogs", 8, true, true)
	wantFind(t, various(), 0, "dogs", 0, false, false)
	wantFind(t, various(), 5, "dogs", 0, false, false)
}

// P13.2: arguments that have no Norm, that are no headings, or that nobody has.
func TestFindNone(t *testing.T) {
	for _, l := range [][]api.Authority{nil, {}, {auth(1, "a")}, example(), various()} {
		for kind := -1; kind <= 6; kind++ {
			for _, s := range []string{
				"", " ", "\u00a0", "!", "...", "-", "--", "------", "--!--", "\u00d7", "()", "\xff", "\n", "\x00", "\xed\xa0\x80",
				"Dog", "Dogss", "D ogs", "Dogs--", "Dogs--x", "x--Dogs", "Dogs Training", "Dogs--Training--", "Dogs--Training--x", "Training", "a--b--c--d--e", strings.Repeat("x", 300), strings.Repeat("Dogs", 100),
			} {
				id, preferred, ok := findOf(l, kind, s)
				wantFind(t, l, kind, s, id, preferred, ok)
			}
		}
	}
	for _, s := range []string{"", " ", "--", "!", "\xff", "\n", "Dog", "Dogs--x", "a--b--c--d--e"} {
		wantFind(t, various(), api.AuSubject, s, 0, false, false)
	}
}

// P13.2: all headings of full files.
func TestFindFull(t *testing.T) {
	var l []api.Authority
	for i := range 64 {
		l = append(l, kinded(seen(auth(i+1, fmt.Sprint("Theme ", i/4)), many(fmt.Sprint("Variant ", i/4), 8)...), 1+i%4))
	}
	wantRight(t, l, api.OK)
	for _, a := range l {
		for i, s := range all(a) {
			if id, preferred, ok := Find(l, a.Kind, strings.ToUpper(s)); id != a.ID || preferred != (i == 0) || !ok {
				t.Errorf("Find of kind %d, %q is %d, %t, %t", a.Kind, s, id, preferred, ok)
			}
		}
	}
}

// P13.7: none, one and several levels, and several ways.
func TestAboveBelow(t *testing.T) {
	for id := -1; id < 3; id++ {
		wantWays(t, nil, id, nil, nil)
		wantWays(t, []api.Authority{}, id, nil, nil)
		wantWays(t, numbered(1), id, nil, nil)
		wantWays(t, numbered(2), id, nil, nil)
	}
	chain := []api.Authority{auth(2, "a"), auth(3, "b", 2), auth(5, "c", 3), auth(9, "d", 5)}
	wantWays(t, chain, 2, nil, []int{3, 5, 9})
	wantWays(t, chain, 3, []int{2}, []int{5, 9})
	wantWays(t, chain, 5, []int{2, 3}, []int{9})
	wantWays(t, chain, 9, []int{2, 3, 5}, nil)
	for _, id := range []int{-1 << 63, -1, 0, 1, 4, 6, 8, 10, 9999, 1<<63 - 1} {
		wantWays(t, chain, id, nil, nil)
	}
	back := []api.Authority{auth(1, "a", 4), auth(4, "b", 6), auth(6, "c", 9), auth(9, "d")}
	wantWays(t, back, 1, []int{4, 6, 9}, nil)
	wantWays(t, back, 6, []int{9}, []int{1, 4})
	wantWays(t, back, 9, nil, []int{1, 4, 6})
	// Two ways of different lengths, and levels whose IDs do not follow each other.
	ways := []api.Authority{auth(1, "a", 5, 8), auth(2, "b", 1), auth(5, "c", 8), auth(6, "d", 1, 2, 5, 8), auth(7, "e", 2), auth(8, "f"), auth(10, "g")}
	wantRight(t, ways, api.OK)
	wantWays(t, ways, 1, []int{5, 8}, []int{2, 6, 7})
	wantWays(t, ways, 2, []int{1, 5, 8}, []int{6, 7})
	wantWays(t, ways, 5, []int{8}, []int{1, 2, 6, 7})
	wantWays(t, ways, 6, []int{1, 2, 5, 8}, nil)
	wantWays(t, ways, 7, []int{1, 2, 5, 8}, nil)
	wantWays(t, ways, 8, nil, []int{1, 2, 5, 6, 7})
	wantWays(t, ways, 10, nil, nil)
	wantWays(t, various(), 9999, []int{3, 7, 20}, nil)
	wantWays(t, various(), 3, nil, []int{7, 20, 9999})
	wantWays(t, various(), 21, nil, []int{9998})
}

// P13.7: the longest way, the widest level, and as many ways as there can be.
func TestAboveBelowLong(t *testing.T) {
	l, star, dense := numbered(64), numbered(64), numbered(64)
	for i := 1; i < 64; i++ {
		l[i].Above = []int{i}
		star[i].Above = []int{1}
		for j := max(0, i-4); j < i; j++ {
			dense[i].Above = append(dense[i].Above, j+1)
		}
	}
	for _, file := range [][]api.Authority{l, star, dense} {
		wantRight(t, file, api.OK)
		for id := 0; id <= 65; id++ {
			above, below := waysOf(file, id)
			wantWays(t, file, id, above, below)
		}
	}
	if len(Above(l, 64)) != 63 || len(Below(l, 1)) != 63 || len(Below(star, 1)) != 63 || len(Above(star, 64)) != 1 || len(Above(dense, 64)) != 63 {
		t.Error("the longest ways")
	}
}

// P13.7, P13.9: random files.
func TestAboveBelowRandom(t *testing.T) {
	r := rand.New(rand.NewSource(9))
	for range 500 {
		l := randomFile(r, 15)
		for id := range 40 {
			above, below := waysOf(l, id)
			wantWays(t, l, id, above, below)
		}
		wantInverse(t, l)
	}
	wantInverse(t, various())
}

// wantInverse checks P13.9.
func wantInverse(t *testing.T, l []api.Authority) {
	t.Helper()
	type pair struct{ over, under int }
	up, down := map[pair]bool{}, map[pair]bool{}
	for _, a := range l {
		for _, id := range Above(l, a.ID) {
			up[pair{id, a.ID}] = true
		}
		for _, id := range Below(l, a.ID) {
			down[pair{a.ID, id}] = true
		}
	}
	for _, a := range l {
		for _, b := range l {
			if up[pair{a.ID, b.ID}] != down[pair{a.ID, b.ID}] {
				t.Errorf("%d is above %d: %t, the other one below: %t, in%s", a.ID, b.ID, up[pair{a.ID, b.ID}], down[pair{a.ID, b.ID}], shown(l))
			}
		}
		if up[pair{a.ID, a.ID}] {
			t.Errorf("%d is above itself in%s", a.ID, shown(l))
		}
	}
}
