package heading

import (
	"fmt"
	"math/rand"
	"regexp"
	"slices"
	"strings"
	"testing"
	"unicode/utf8"

	"library/api"
)

// A text, by its characters.
var textForm = regexp.MustCompile(`^[\x{20}-\x{7E}\x{A0}-\x{FFFF}]*$`)

// isText reports whether a string is a text, as chapter 1 defines it.
func isText(s string) bool {
	return utf8.ValidString(s) && textForm.MatchString(s)
}

// What is wrong with a part that is not empty, except that it is no text: a blank at an end, two neighbouring blanks, a no-break space, two neighbouring hyphens, a hyphen at an end.
var wrongPart = regexp.MustCompile(`^ | $|  |\x{A0}|--|^-|-$`)

// joinOf returns the result and the error that P12.3 describes.
func joinOf(l []string) (string, api.Errno) {
	switch {
	case len(l) == 0:
		return "", api.ErrMissing
	case len(l) > 4:
		return "", api.ErrLong
	}
	size := -2
	for _, part := range l {
		if len(part) == 0 {
			return "", api.ErrMissing
		}
		if !isText(part) || wrongPart.MatchString(part) {
			return "", api.ErrForm
		}
		size += 2 + len(part)
	}
	if size > 200 {
		return "", api.ErrLong
	}
	s := l[0]
	for _, part := range l[1:] {
		s = fmt.Sprintf("%s--%s", s, part)
	}
	return s, api.OK
}

// wantJoin checks the heading of parts, or the error, and P12.7: parts of the result are the parts.
func wantJoin(t *testing.T, l []string, want string, wantErr api.Errno) {
	t.Helper()
	got, err := Join(l)
	if got != want || err != wantErr {
		t.Errorf("Join of %d parts %s is %q, error %d, want %q, error %d", len(l), shown(l), short(got), int(err), short(want), int(wantErr))
	}
	if wantErr == api.OK {
		wantParts(t, want, l...)
	}
}

// checkJoin checks Join against the description.
func checkJoin(t *testing.T, l ...string) {
	t.Helper()
	want, err := joinOf(l)
	wantJoin(t, l, want, err)
}

// P12.3: no parts to five parts.
func TestJoinNumbers(t *testing.T) {
	wantJoin(t, nil, "", api.ErrMissing)
	wantJoin(t, []string{}, "", api.ErrMissing)
	wantJoin(t, []string{"Art"}, "Art", api.OK)
	wantJoin(t, []string{"Art", "History"}, "Art--History", api.OK)
	wantJoin(t, []string{"Art", "History", "France"}, "Art--History--France", api.OK)
	wantJoin(t, []string{"Art", "History", "France", "1900"}, "Art--History--France--1900", api.OK)
	wantJoin(t, []string{"b", "a", "b", "b"}, "b--a--b--b", api.OK)
	for n := 5; n < 300; n++ {
		wantJoin(t, slices.Repeat([]string{"a"}, n), "", api.ErrLong)
	}
	// The number of parts is looked at before the parts.
	for i := range 5 {
		for _, wrong := range []string{"", "-", " ", "a--b", "\xff", "\n"} {
			l := []string{"a", "b", "c", "d", "e"}
			l[i] = wrong
			wantJoin(t, l, "", api.ErrLong)
		}
	}
	wantJoin(t, make([]string, 5), "", api.ErrLong)
}

// P12.3: what a part can be.
func TestJoinParts(t *testing.T) {
	for _, part := range []string{"a", "Dogs", "a b", "a-b", "a-b-c", "a - b", "L'\u00e9t\u00e9, 1990!", "\u65e5\u672c", "\u2003", "\u2010\u2010", "\uffff", ".", "0", "x -y- z", "!", "~"} {
		wantJoin(t, []string{part}, part, api.OK)
		wantJoin(t, []string{part, "b"}, part+"--b", api.OK)
		wantJoin(t, []string{"b", part, "c"}, "b--"+part+"--c", api.OK)
	}
	for _, part := range []string{
		" ", "  ", "\u00a0", " a", "a ", "a  b", "a\u00a0b", "\u00a0a", "a\u00a0", "a \u00a0b", "a--b", "--", "a--", "--a", "a---b", "a -- b", "-", "---", "-a", "a-", "-a-", "a b-",
		"a\n", "\x00", "\x1f", "a\tb", "\x7f", "\u0080", "\u009f", "\U00010000", "\U0001f600", "\xff", "a\xc3", "\xed\xa0\x80", "\xc0\x80", "\xf4\x90\x80\x80",
	} {
		wantJoin(t, []string{part}, "", api.ErrForm)
		wantJoin(t, []string{part, "b"}, "", api.ErrForm)
		wantJoin(t, []string{"b", part}, "", api.ErrForm)
		wantJoin(t, []string{"b", part, "c"}, "", api.ErrForm)
		wantJoin(t, []string{"b", "c", "d", part}, "", api.ErrForm)
	}
	for _, l := range [][]string{{""}, {"", "a"}, {"a", ""}, {"a", "", "b"}, {"a", "b", "c", ""}, {"", "", ""}} {
		wantJoin(t, l, "", api.ErrMissing)
	}
}

// P12.3: every character and every byte at each place of a part.
func TestJoinCharacters(t *testing.T) {
	for r := rune(0); r <= utf8.MaxRune; r++ {
		if r > 0x12000 && r%97 != 0 && r < utf8.MaxRune-100 {
			continue
		}
		c := string(r)
		checkJoin(t, "b", "x"+c+"y")
		checkJoin(t, c+"y")
		checkJoin(t, "x"+c, "b")
	}
	for c := range 256 {
		for d := range 256 {
			checkJoin(t, "a"+string([]byte{byte(c), byte(d)})+"b")
			checkJoin(t, string([]byte{byte(c), byte(d)}))
		}
	}
}

// P12.3: the error of the earlier part is returned, and of one part the error that comes first.
func TestJoinOrder(t *testing.T) {
	pool := []string{"a", "b c", "d-e", "", " f", "g ", "h  i", "j\u00a0k", "l--m", "-n", "o-", "\n", "\xff", "\u00e9", strings.Repeat("x", 190)}
	lists := [][]string{{}}
	for range 4 {
		var next [][]string
		for _, l := range lists {
			for _, part := range pool {
				next = append(next, append(slices.Clone(l), part))
			}
		}
		lists = next
		for _, l := range lists {
			checkJoin(t, l...)
		}
	}
	wantJoin(t, []string{"", "-a"}, "", api.ErrMissing)
	wantJoin(t, []string{"-a", ""}, "", api.ErrForm)
	wantJoin(t, []string{"a", " b", "", "c"}, "", api.ErrForm)
	wantJoin(t, []string{"a", "", " b", "c"}, "", api.ErrMissing)
}

// P12.3: results around the greatest length, also with an error in one of the parts.
func TestJoinLength(t *testing.T) {
	wantJoin(t, []string{strings.Repeat("x", 200)}, strings.Repeat("x", 200), api.OK)
	wantJoin(t, []string{strings.Repeat("x", 201)}, "", api.ErrLong)
	wantJoin(t, []string{strings.Repeat("\u00e9", 100)}, strings.Repeat("\u00e9", 100), api.OK)
	wantJoin(t, []string{strings.Repeat("\u00e9", 100) + "x"}, "", api.ErrLong)
	wantJoin(t, []string{strings.Repeat("\u65e5", 67)}, "", api.ErrLong)
	for n := 1; n <= 4; n++ {
		for place := range n {
			for size := 190; size <= 215; size++ {
				l := slices.Repeat([]string{"ab"}, n)
				l[place] = strings.Repeat("y", size-4*(n-1))
				if size <= 200 {
					wantJoin(t, l, strings.Join(l, "--"), api.OK)
				} else {
					wantJoin(t, l, "", api.ErrLong)
				}
				checkWrongOne(t, l)
			}
		}
	}
}

// checkWrongOne replaces each of the parts by wrong ones of the same length: their error comes before that of the length.
func checkWrongOne(t *testing.T, l []string) {
	t.Helper()
	for i, part := range l {
		wrong := slices.Clone(l)
		wrong[i] = ""
		wantJoin(t, wrong, "", api.ErrMissing)
		for _, c := range []string{"-", " ", "\n", "\xff"} {
			wrong[i] = part[1:] + c
			wantJoin(t, wrong, "", api.ErrForm)
			wrong[i] = c + part[1:]
			wantJoin(t, wrong, "", api.ErrForm)
		}
	}
}

// P12.3, P12.7: lists of random parts, and the parts of random headings.
func TestRandomJoin(t *testing.T) {
	r := rand.New(rand.NewSource(3))
	units := []string{"a", "b", "C", "-", " ", "\u00e9", "dogs", "x", "y", "1990", "\u00a0", "\u65e5\u672c\u672c\u65e5\u672c\u672c\u65e5\u672c\u672c"}
	for range 50000 {
		var l []string
		for range r.Intn(6) {
			l = append(l, random(r, units, 8))
		}
		checkJoin(t, l...)
	}
	for range 50000 {
		l := Parts(random(r, append(units, "--", "--", "--"), 20))
		checkJoin(t, l...)
	}
}

// P12.7: the parts of each norm that is not too long can be joined to it.
func TestJoinNorm(t *testing.T) {
	eachSequence([]string{"--", "-", " ", "A", "!b"}, 6, func(s string) {
		norm := Norm(s)
		if parts := Parts(norm); len(parts) > 0 && len(parts) <= 4 {
			wantJoin(t, parts, norm, api.OK)
		}
	})
}
