package heading

import (
	"fmt"
	"math/rand"
	"slices"
	"strings"
	"testing"
	"time"

	"library/api"
	"library/text"
)

// short shortens what is shown.
func short(s string) string {
	if len(s) > 300 {
		return s[:300] + fmt.Sprintf(".. (%d bytes)", len(s))
	}
	return s
}

// shown shows a list.
func shown(l []string) string {
	return short(fmt.Sprintf("%q", l))
}

// cleaned returns a text without superfluous blanks, by its runs of other characters.
func cleaned(s string) string {
	return strings.Join(strings.FieldsFunc(s, func(r rune) bool { return r == 0x20 || r == 0xA0 }), " ")
}

// partsOf returns the parts of a heading as the chapter defines them: it goes from "--" to "--", from left to right.
func partsOf(s string) []string {
	var parts []string
	add := func(piece string) {
		if part := cleaned(piece); part != "" {
			parts = append(parts, part)
		}
	}
	begin := 0
	for i := 0; i+1 < len(s); {
		if s[i] != '-' || s[i+1] != '-' {
			i++
			continue
		}
		add(s[begin:i])
		i += 2
		begin = i
	}
	add(s[begin:])
	return parts
}

// normOf returns the norm of a heading as P12.2 describes it.
func normOf(s string) string {
	norm := ""
	for _, part := range partsOf(s) {
		words := ""
		for i, w := range text.Words(part) {
			if i > 0 {
				words += " "
			}
			words += w
		}
		if words == "" {
			continue
		}
		if norm != "" {
			norm += "--"
		}
		norm += words
	}
	return norm
}

// aboveOf returns what P12.4 describes.
func aboveOf(s string) []string {
	parts := partsOf(s)
	var above []string
	for n := len(parts) - 1; n >= 1; n-- {
		h := parts[0]
		for _, part := range parts[1:n] {
			h += "--" + part
		}
		above = append(above, h)
	}
	return above
}

// wantParts checks the parts of a heading.
func wantParts(t *testing.T, s string, want ...string) {
	t.Helper()
	if got := Parts(s); !slices.Equal(got, want) {
		t.Errorf("Parts(%q) is %s, want %s", short(s), shown(got), shown(want))
	}
}

// wantNorm checks the norm of a heading, and the norm of the norm.
func wantNorm(t *testing.T, s, want string) {
	t.Helper()
	if got := Norm(s); got != want {
		t.Errorf("Norm(%q) is %q, want %q", short(s), short(got), short(want))
	}
	if got := Norm(want); got != want {
		t.Errorf("Norm of the norm %q is %q", short(want), short(got))
	}
}

// wantSame checks Same in both directions.
func wantSame(t *testing.T, a, b string, want bool) {
	t.Helper()
	if Same(a, b) != want || Same(b, a) != want {
		t.Errorf("Same of %q and %q is %t, in the other direction %t, want %t", short(a), short(b), Same(a, b), Same(b, a), want)
	}
}

// wantAbove checks the headings above a heading.
func wantAbove(t *testing.T, s string, want ...string) {
	t.Helper()
	if got := Above(s); !slices.Equal(got, want) {
		t.Errorf("Above(%q) is %s, want %s", short(s), shown(got), shown(want))
	}
}

// wantAll checks all that the package says of one heading against the chapter's definitions.
func wantAll(t *testing.T, s string) {
	t.Helper()
	norm := normOf(s)
	wantParts(t, s, partsOf(s)...)
	wantNorm(t, s, norm)
	wantAbove(t, s, aboveOf(s)...)
	wantSame(t, s, s, norm != "")
	wantSame(t, s, norm, norm != "")
}

// eachSequence calls a function with all sequences of up to n of the units, joined.
func eachSequence(units []string, n int, call func(string)) {
	level := []string{""}
	for i := 0; ; i++ {
		for _, s := range level {
			call(s)
		}
		if i == n {
			return
		}
		var next []string
		for _, s := range level {
			for _, u := range units {
				next = append(next, s+u)
			}
		}
		level = next
	}
}

// random returns a sequence of up to n of the units, joined.
func random(r *rand.Rand, units []string, n int) string {
	var b strings.Builder
	for range r.Intn(n + 1) {
		b.WriteString(units[r.Intn(len(units))])
	}
	return b.String()
}

// within checks that a call ends in good time.
func within(t *testing.T, name string, call func()) {
	t.Helper()
	start := time.Now()
	call()
	if d := time.Since(start); d > 10*time.Second {
		t.Errorf("%s takes %s", name, d)
	}
}

// The chapter's examples.
func TestExamples(t *testing.T) {
	wantNorm(t, "Dogs --  Training -- ", "dogs--training")
	wantSame(t, "Dogs", "DOGS.", true)
	wantSame(t, "--", "--", false)
	wantParts(t, "a---b", "a", "-b")
	wantJoin(t, []string{"a", "-b"}, "", api.ErrForm)
	wantJoin(t, nil, "", api.ErrMissing)
	wantAbove(t, "Art--History--France", "Art--History", "Art")
	wantName(t, "Darwin, Charles, 1809-1882", api.Name{Last: "Darwin", First: "Charles", Dates: "1809-1882"}, api.OK)
	wantName(t, "Plato, 1900-", api.Name{Last: "Plato", Dates: "1900-"}, api.OK)
	wantName(t, "a,b", api.Name{}, api.ErrForm)
	wantText(t, api.Name{Last: "Plato", First: "1900-"}, "", api.ErrForm)
}

// P12.1: headings of no, one, two and many parts.
func TestParts(t *testing.T) {
	wantParts(t, "")
	wantParts(t, " ")
	wantParts(t, "\u00a0")
	wantParts(t, " \u00a0  \u00a0")
	wantParts(t, "Dogs", "Dogs")
	wantParts(t, "a", "a")
	wantParts(t, "Art--History", "Art", "History")
	wantParts(t, "Art--History--France--1900", "Art", "History", "France", "1900")
	wantParts(t, "b--a--b--a--c--a", "b", "a", "b", "a", "c", "a")
	wantParts(t, "Guns, germs & steel: (1997)!--\u00c9t\u00e9--\u65e5\u672c", "Guns, germs & steel: (1997)!", "\u00c9t\u00e9", "\u65e5\u672c")
	var many []string
	for i := range 1000 {
		many = append(many, fmt.Sprint("part ", i))
	}
	wantParts(t, strings.Join(many, "--"), many...)
}

// P12.1: hyphens at each place, and pieces that are left out.
func TestPartsHyphens(t *testing.T) {
	wantParts(t, "--")
	wantParts(t, "----")
	wantParts(t, "-- --\u00a0--")
	wantParts(t, "--a", "a")
	wantParts(t, "a--", "a")
	wantParts(t, "--a--", "a")
	wantParts(t, "----a----b----", "a", "b")
	wantParts(t, "a--  --b", "a", "b")
	wantParts(t, "a-- \u00a0 --b--  ", "a", "b")
	wantParts(t, "  --a", "a")
	wantParts(t, "-", "-")
	wantParts(t, "---", "-")
	wantParts(t, "-----", "-")
	wantParts(t, "- -", "- -")
	wantParts(t, "a-b", "a-b")
	wantParts(t, "a- -b", "a- -b")
	wantParts(t, "-a-", "-a-")
	wantParts(t, "-a--b-", "-a", "b-")
	wantParts(t, "a--b-c--d", "a", "b-c", "d")
	wantParts(t, "a----b", "a", "b")
	wantParts(t, "a-----b", "a", "-b")
	wantParts(t, "a--- b", "a", "- b")
	wantParts(t, "a ---b", "a", "-b")
	wantParts(t, "a- --b", "a-", "b")
	wantParts(t, "a-- -b", "a", "-b")
	wantParts(t, "---a", "-a")
	wantParts(t, "a---", "a", "-")
	// Other signs that look like hyphens do not divide.
	wantParts(t, "a\u2010\u2010b", "a\u2010\u2010b")
	wantParts(t, "a\u2013\u2014b\u00ad\u00adc", "a\u2013\u2014b\u00ad\u00adc")
}

// P12.1: superfluous blanks before, behind and within parts, and characters of several bytes next to the hyphens.
func TestPartsBlanks(t *testing.T) {
	wantParts(t, "  Dogs  ", "Dogs")
	wantParts(t, "Dogs  and\u00a0cats", "Dogs and cats")
	wantParts(t, "a --b", "a", "b")
	wantParts(t, "a-- b", "a", "b")
	wantParts(t, " a  b -- c \u00a0 d ", "a b", "c d")
	wantParts(t, "\u00a0a\u00a0--\u00a0b\u00a0", "a", "b")
	wantParts(t, "a\u00a0b", "a b")
	wantParts(t, "\u00e9--\u00e9", "\u00e9", "\u00e9")
	wantParts(t, "\u65e5--\u672c--\uffff--\u0100", "\u65e5", "\u672c", "\uffff", "\u0100")
	// Other blanks are characters of texts like any others.
	wantParts(t, "a\u2003 --\u3000b", "a\u2003", "\u3000b")
}

// P12.4: headings of no to many parts.
func TestAbove(t *testing.T) {
	wantAbove(t, "")
	wantAbove(t, " \u00a0")
	wantAbove(t, "--")
	wantAbove(t, "Art")
	wantAbove(t, "--Art--")
	wantAbove(t, "Art-History")
	wantAbove(t, "Art--History", "Art")
	wantAbove(t, "  Art \u00a0 deco  --  History", "Art deco")
	wantAbove(t, "--a----b-- --c--", "a--b", "a")
	wantAbove(t, "a--b--c--d", "a--b--c", "a--b", "a")
	wantAbove(t, "a--a--a--a--a", "a--a--a--a", "a--a--a", "a--a", "a")
	wantAbove(t, "a--bcd--\u00e9f--ghijk--l", "a--bcd--\u00e9f--ghijk", "a--bcd--\u00e9f", "a--bcd", "a")
	wantAbove(t, "a---b---c--- d", "a---b---c", "a---b", "a")
	wantAbove(t, "-a- --b", "-a-")
	var parts []string
	for i := range 300 {
		parts = append(parts, strings.Repeat("x", 1+i%7))
	}
	wantAll(t, strings.Join(parts, "--"))
}

// P12.1, P12.2, P12.4, P12.7: all short headings of hyphens, blanks, letters and signs, against the definitions.
func TestShortHeadings(t *testing.T) {
	check := func(s string) { wantAll(t, s) }
	eachSequence([]string{"-", "a", " "}, 8, check)
	eachSequence([]string{"--", "-", "A", "!", " ", "\u00a0", "\u00e9"}, 5, check)
	eachSequence([]string{"--", " -- ", "Dogs", "dogs.", " ", "...", "\u65e5"}, 5, check)
}

// P12.1, P12.2, P12.4, P12.7: each character of texts in a part, at its ends and next to the hyphens.
func TestEachCharacter(t *testing.T) {
	for r := rune(0x20); r <= 0xFFFF; r++ {
		c := string(r)
		if text.Valid(c) {
			wantAll(t, "x"+c+"y--"+c+"--z"+c)
		}
	}
}

// P12.1, P12.2, P12.4, P12.7: long headings.
func TestRandomHeadings(t *testing.T) {
	r := rand.New(rand.NewSource(12))
	units := []string{"--", "--", "-", " ", "\u00a0", "Dogs", "x", "Z", "\u00c6gir", "!?", "\u65e5\u672c", "1990", ",", "  "}
	for range 20000 {
		wantAll(t, random(r, units, 60))
	}
}

// P12.2: what the norm is made of.
func TestNorm(t *testing.T) {
	wantNorm(t, "", "")
	wantNorm(t, " \u00a0 ", "")
	wantNorm(t, "--", "")
	wantNorm(t, "-", "")
	wantNorm(t, "...--?!--(-)", "")
	wantNorm(t, "Dogs", "dogs")
	wantNorm(t, "DOGS", "dogs")
	wantNorm(t, "L'\u00e9t\u00e9 1990!", "l ete 1990")
	wantNorm(t, "\u00c6gir  Stra\u00dfe \u00de\u00d0", "aegir strasse thd")
	wantNorm(t, "\u00d7\u00f7", "")
	wantNorm(t, "\u0100\u4e00 \u2014", "\u0100\u4e00 \u2014")
	wantNorm(t, "Guns, germs & steel: (1997)", "guns germs steel 1997")
	wantNorm(t, "a-b", "a b")
	wantNorm(t, "a- -b", "a b")
	wantNorm(t, "-a-", "a")
	wantNorm(t, "a---b", "a--b")
	wantNorm(t, "a----b", "a--b")
	wantNorm(t, "a b--c", "a b--c")
	wantNorm(t, "a--b c", "a--b c")
	wantNorm(t, "!--a--b", "a--b")
	wantNorm(t, "a--!--b", "a--b")
	wantNorm(t, "a--b--!", "a--b")
	wantNorm(t, "a-- - --b", "a--b")
	wantNorm(t, "!--a--?--b--.--(c)--;", "a--b--c")
	wantNorm(t, "z--y--x--w--v", "z--y--x--w--v")
	wantNorm(t, "a--a--a", "a--a--a")
	wantNorm(t, "b a b", "b a b")
}

// P12.2: which headings are the same.
func TestSame(t *testing.T) {
	for _, list := range [][]string{
		{"Dogs", "DOGS.", "dogs", " d\u00f4gs ", "--dogs--", "dogs--!", "(?)--Dogs", "-dogs-"},
		{"Guns, germs", "guns germs", "GUNS \u00a0(germs)!", "guns-germs", "g\u00dcns\u00a0g\u00earms."},
		{"Dogs--Training", "dogs -- training", "dogs--!--training", "Dogs---Training", "----DOGS----TRAINING----", "?--dogs.--(training)--"},
		{"Dogs training", "dogs, training", "dogs-training", "dogs - training"},
		{"Training--Dogs"}, {"Training dogs"}, {"Dogs--Training--Dogs"}, {"dog s"}, {"dogs t raining"}, {"Dogs--Training of", "dogs--training-of"}, {"Dogs--Training--of"}, {"Dogs training--of"}, {"Dogs--Dogs"}, {"dogs dogs"},
		{"a--b c"}, {"a b--c"}, {"a b c"}, {"a--b--c"}, {"ab--c"}, {"a--bc"}, {"a"}, {"b"}, {"aa"},
		{"stra\u00dfe", "STRASSE"}, {"\u00c6gir", "aegir", "A\u00c9GIR"}, {"\u0100"}, {"\u0101"},
	} {
		for i, a := range list {
			for _, b := range list[i:] {
				wantSame(t, a, b, true)
			}
		}
	}
	distinct := []string{"Dogs", "Guns, germs", "Dogs--Training", "Dogs training", "Training--Dogs", "Training dogs", "Dogs--Training--Dogs", "dog s", "dogs t raining", "Dogs--Training of", "Dogs--Training--of", "Dogs training--of",
		"Dogs--Dogs", "dogs dogs", "a--b c", "a b--c", "a b c", "a--b--c", "ab--c", "a--bc", "a", "b", "aa", "stra\u00dfe", "\u00c6gir", "\u0100", "\u0101", ""}
	for i, a := range distinct {
		for _, b := range distinct[i+1:] {
			wantSame(t, a, b, false)
		}
	}
	empty := []string{"", " ", "\u00a0", "-", "--", "---", "!", "!--?", "\u00d7", ". , ;"}
	for _, a := range empty {
		for _, b := range append([]string{"a", "Dogs--Training"}, empty...) {
			wantSame(t, a, b, false)
		}
	}
}

// P12.2, P12.7: Same of all pairs among many headings, against the definition.
func TestSamePairs(t *testing.T) {
	var list []string
	eachSequence([]string{"--", "-", " ", "a", "A.", "\u00e1b"}, 3, func(s string) { list = append(list, s) })
	for _, a := range list {
		for _, b := range list {
			if want := normOf(a) == normOf(b) && normOf(a) != ""; Same(a, b) != want {
				t.Errorf("Same(%q, %q) is not %t", a, b, want)
			}
		}
	}
}

// What is no text does not let a call panic or run on.
func TestNoTexts(t *testing.T) {
	eachSequence([]string{"\x00", "\xff", "\xc3", "\n", "\x7f", "\U0001f600", "\xed\xa0\x80", "-", "--", " ", "a", ", "}, 4, func(s string) {
		Norm(s)
		Same(s, s)
		Parts(s)
		Above(s)
	})
}

// The long headings and lists that the bound allows.
func TestLong(t *testing.T) {
	const size = 1 << 24
	for i, unit := range []string{"a--", "a, ", "-", ", ", " ", "\u00c6", "a -", "-- ", "\u00a0", ",", "\xff", "0-"} {
		s := strings.Repeat(unit, size/len(unit))
		if i > 3 {
			// The first ones are the slowest of their kinds; a part of the bound is enough for what resembles them.
			s = s[:size/8]
		}
		within(t, fmt.Sprintf("long text %d", i), func() {
			Same(s, "a")
			Above(s)
		})
		within(t, fmt.Sprintf("long name %d", i), func() {
			Name(s)
			wantText(t, api.Name{Last: "a", First: s, Dates: s}, "", api.ErrForm)
		})
	}
	long := strings.Repeat("a", size)
	wantJoin(t, []string{long}, "", api.ErrLong)
	wantJoin(t, []string{long[1:] + "-"}, "", api.ErrForm)
	wantJoin(t, strings.SplitAfter(long[:size/16], "a"), "", api.ErrLong)
	wantName(t, long, api.Name{Last: long}, api.OK)
	wantName(t, "a, "+long, api.Name{Last: "a", First: long}, api.OK)
	wantText(t, api.Name{Last: long, First: "b", Dates: "1900-"}, long+", b, 1900-", api.OK)
	many := strings.Repeat("b--", size/3)
	if got := Above(many); len(got) != size/3-1 || got[0] != many[:len(many)-5] || got[len(got)-1] != "b" || got[len(got)-2] != "b--b" {
		t.Errorf("Above of a heading with %d parts has %d elements", size/3, len(got))
	}
}

// Results are not changed by what the caller does to lists that were returned earlier, nor are lists that were handed in.
func TestMemory(t *testing.T) {
	for _, s := range []string{"a", "a--b", "Art--History--France", "-- x --y -- z--w", strings.Repeat("part--", 100)} {
		for _, call := range []func(string) []string{Parts, Above} {
			first := call(s)
			want := slices.Clone(first)
			all := first[:cap(first)]
			for i := range all {
				all[i] = "spoilt"
			}
			if got := call(s); !slices.Equal(got, want) {
				t.Errorf("%q gives %s after an earlier result was changed, before %s", short(s), shown(got), shown(want))
			}
		}
	}
	for _, list := range [][]string{nil, {"a"}, {"a", "b"}, {"a", "", "b"}, {"b", "-a", " c"}, {"a", "b", "c", "d"}, {"a", "b", "c", "d", "e"}, {strings.Repeat("x", 201)}} {
		l := append(make([]string, 0, len(list)+3), list...)
		copy(l[len(l):cap(l)], []string{"x", "y", "z"})
		before := slices.Clone(l[:cap(l)])
		s, err := Join(l)
		if !slices.Equal(l[:cap(l)], before) {
			t.Errorf("Join changes %s to %s", shown(before), shown(l[:cap(l)]))
		}
		clear(l[:cap(l)])
		if again, errAgain := Join(list); again != s || errAgain != err {
			t.Errorf("Join of %s is %q, error %d, then %q, error %d", shown(list), short(s), int(err), short(again), int(errAgain))
		}
	}
}
