package control

import (
	"math/rand"
	"slices"
	"strings"
	"testing"

	"library/api"
	"library/heading"
	"library/text"
)

// P14.2: persons, by the pieces of the name.
func TestPutPerson(t *testing.T) {
	for _, tag := range []string{"100", "600", "700"} {
		want := func(s string, subs ...string) {
			t.Helper()
			wantPut(t, fd(tag, "aSmith, Ann", "d1950-"), s, fd(tag, subs...))
			wantPut(t, fd(tag), s, fd(tag, subs...))
			wantPut(t, to(3, fd(tag, "4aut", "aSmith", "xPoetry", "d1950-", "zItaly")), s, to(3, fd(tag, append(slices.Clone(subs), "4aut", "xPoetry", "zItaly")...)))
		}
		// One piece, which is never dates.
		want("Plato", "aPlato")
		want("1900-", "a1900-")
		want("1900-1950", "a1900-1950")
		want("Smith Ann", "aSmith Ann")
		// Two pieces, with and without dates.
		want("Lee, Bo", "aLee, Bo")
		want("Plato, 1900-", "aPlato", "d1900-")
		want("Plato, 1900-1950", "aPlato", "d1900-1950")
		want("1900-, 1950-", "a1900-", "d1950-")
		want("Lee, 1900", "aLee, 1900")
		want("Lee, -1900", "aLee, -1900")
		want("Lee, 190-", "aLee, 190-")
		want("Lee, 1900-195", "aLee, 1900-195")
		want("Lee, c1900-", "aLee, c1900-")
		// Three pieces, of which the second one can have the form of dates, too.
		want("Lee, Bo, 1960-", "aLee, Bo", "d1960-")
		want("Lee, Bo C., 1960-2001", "aLee, Bo C.", "d1960-2001")
		want("Plato, 1900-, 1950-", "aPlato, 1900-", "d1950-")
		want("1900-, 1910-, 1920-", "a1900-, 1910-", "d1920-")
		// What is no name.
		want("Lee, Bo, Jr.", "aLee, Bo, Jr.")
		want("Lee, 1960-, Bo", "aLee, 1960-, Bo")
		want("Lee, Bo, C., 1960-", "aLee, Bo, C., 1960-")
		want("Lee, Bo, 1960-, 1970-", "aLee, Bo, 1960-, 1970-")
		want("Lee,Bo, 1960-", "aLee,Bo, 1960-")
		want("Lee, Bo,1960-", "aLee, Bo,1960-")
		want("Lee, Bo, 1960-,", "aLee, Bo, 1960-,")
		want("Lee, Bo, 1960-, ", "aLee, Bo, 1960-, ")
		want("Lee , 1960-", "aLee , 1960-")
		want("Lee,  1960-", "aLee,  1960-")
		want("Lee, 1960- ", "aLee, 1960- ")
		want("Lee  Bo, 1960-", "aLee  Bo, 1960-")
		want("Lee\u00a0Bo, 1960-", "aLee\u00a0Bo, 1960-")
		want("Lee\u00a0, 1960-", "aLee\u00a0, 1960-")
		want(", 1960-", "a, 1960-")
		want("Lee, , 1960-", "aLee, , 1960-")
		want(", Bo, 1960-", "a, Bo, 1960-")
		want(", ", "a, ")
		want(",", "a,")
		want(" ", "a ")
		// What is no text.
		want("Lee\n, 1960-", "aLee\n, 1960-")
		want("Lee\xff, Bo, 1960-", "aLee\xff, Bo, 1960-")
		want("\U0001f600, 1960-", "a\U0001f600, 1960-")
		// A subject.
		want("Cats--Care", "aCats--Care")
		want("Cats--Care, 1960-", "aCats--Care", "d1960-")
		want(strings.Repeat("x", 300)+", 1960-", "a"+strings.Repeat("x", 300), "d1960-")
	}
}

// P14.2: bodies and series.
func TestPutName(t *testing.T) {
	for _, tag := range []string{"110", "610", "710", "440", "830"} {
		for _, s := range []string{"Cats club", "Lee, Bo, 1960-", "Plato, 1900-", "Cats--Care--Germany", "--", " a  b ", " ", "\u00a0", "\n\xff", "a", strings.Repeat("y", 300)} {
			wantPut(t, fd(tag), s, fd(tag, "a"+s))
			wantPut(t, fd(tag, "aDogs club"), s, fd(tag, "a"+s))
			wantPut(t, fd(tag, "aDogs club", "aa", "aDogs club"), s, fd(tag, "a"+s))
			others := []string{"bBoard", "v7", "d1950-", "xHistory", "v8", "yNow", "zGermany"}
			wantPut(t, fd(tag, others...), s, fd(tag, append([]string{"a" + s}, others...)...))
			wantPut(t, to(9, fd(tag, append(others, "aDogs club")...)), s, to(9, fd(tag, append([]string{"a" + s}, others...)...)))
			wantPut(t, fd(tag, "bBoard", "aDogs club", "v7", "aa", "bBoard"), s, fd(tag, "a"+s, "bBoard", "v7", "bBoard"))
		}
	}
}

// P14.2: subjects, by their parts.
func TestPutSubject(t *testing.T) {
	for _, tag := range []string{"650", "651"} {
		want := func(s string, subs ...string) {
			t.Helper()
			wantPut(t, fd(tag, "aDogs", "xHistory", "yNow", "zGermany"), s, fd(tag, subs...))
			wantPut(t, fd(tag), s, fd(tag, subs...))
			wantPut(t, to(3, fd(tag, "4aut", "zItaly", "d1950-", "xPoetry", "v7", "aDogs", "d1950-")), s, to(3, fd(tag, append(slices.Clone(subs), "4aut", "d1950-", "v7", "d1950-")...)))
		}
		want("Cats", "aCats")
		want("Cats--Care", "aCats", "xCare")
		want("Cats--Care--Germany", "aCats", "xCare", "xGermany")
		want("Cats--Care--Now--Germany", "aCats", "xCare", "xNow", "xGermany")
		want("a--b--c--d--e--f", "aa", "xb", "xc", "xd", "xe", "xf")
		want("a--a--a", "aa", "xa", "xa")
		want("Lee, Bo, 1960-", "aLee, Bo, 1960-")
		// Parts that are empty or have superfluous blanks.
		want("--Cats", "aCats")
		want("Cats--", "aCats")
		want("Cats----Care", "aCats", "xCare")
		want("Cats-- --Care", "aCats", "xCare")
		want("\u00a0--Cats--\u00a0 ", "aCats")
		want(" Cats --  Care  of\u00a0cats ", "aCats", "xCare of cats")
		want("Cats---Care", "aCats", "x-Care")
		want("Cats-Care", "aCats-Care")
		want("-Cats-", "a-Cats-")
		want("!--?", "a!", "x?")
		want("--")
		want("----")
		want(" -- ")
		want(" ")
		want("\u00a0")
		want("-", "a-")
		want("---", "a-")
		// What is no text: its parts are those of heading.Parts.
		for _, s := range []string{"Cats\n--Care", "Cats--\x00", "\xff--\xfe", "\U0001f600--a"} {
			want(s, "a"+heading.Parts(s)[0], "x"+heading.Parts(s)[1])
		}
	}
}

// P14.2: fields of the kind 0 stay as they are.
func TestPutNone(t *testing.T) {
	for _, tag := range append(slices.Clone(kindless), "020", "260", "856", "65a", "\xff") {
		for _, s := range []string{"Cats", "Lee, Bo, 1960-", "Cats--Care", "--", "\n"} {
			for _, f := range []api.Field{fd(tag), fd(tag, "aDogs"), fd(tag, "xb", "aDogs", "d1950-", "zc", "4d", "a"), to(7, fd(tag, "aDogs", "xb")), to(-1, fd(tag))} {
				wantPut(t, f, s, f)
			}
		}
	}
}

// P14.2: Tag, Ind and Auth stay, also if no valid field has them.
func TestPutParts(t *testing.T) {
	for _, tag := range kinded {
		for _, ind := range []string{"", " ", "  ", "10", " 0", "1 ", "\xff", "long"} {
			for _, auth := range []int{-1 << 63, -1, 0, 1, 7, 9999, 10000, 1<<63 - 1} {
				f := api.Field{Tag: tag, Ind: ind, Auth: auth, Subs: []api.Sub{{Code: 'b', Value: "B"}, {Code: 'a', Value: "Dogs"}, {Code: 0, Value: ""}}}
				want := api.Field{Tag: tag, Ind: ind, Auth: auth, Subs: []api.Sub{{Code: 'a', Value: "Cats"}, {Code: 'b', Value: "B"}, {Code: 0, Value: ""}}}
				wantPut(t, f, "Cats", want)
			}
		}
	}
}

// P14.2: every code beside those of the heading.
func TestPutCodes(t *testing.T) {
	for _, tag := range slices.Concat(kinded, kindless) {
		for c := range 256 {
			code := string([]byte{byte(c)})
			for _, f := range []api.Field{fd(tag, code+"1"), fd(tag, "a1", code+"2", "a3"), fd(tag, code+"1", "b2", code, code+"1", "4d")} {
				for _, s := range []string{"Cats--Care", "Plato, 1900-"} {
					wantPut(t, f, s, putOf(f, s))
				}
			}
		}
	}
}

// P14.2: results with more than MaxSubs subfields.
func TestPutFull(t *testing.T) {
	others := slices.Repeat([]string{"4aut"}, api.MaxSubs)
	wantPut(t, fd("100", others...), "Plato, 1900-", fd("100", append([]string{"aPlato", "d1900-"}, others...)...))
	wantPut(t, fd("110", others...), "Cats", fd("110", append([]string{"aCats"}, others...)...))
	wantPut(t, fd("650", others...), "a--b--c--d", fd("650", append([]string{"aa", "xb", "xc", "xd"}, others...)...))
	wantPut(t, fd("650", append(others[1:], "aDogs")...), "a--b", fd("650", append([]string{"aa", "xb"}, others[1:]...)...))
	for n := range 40 {
		for _, tag := range kinded {
			f := fd(tag, append(slices.Repeat([]string{"v1", "b2"}, n), "aDogs")...)
			for _, s := range []string{"Cats", "Plato, 1900-", "a--b--c--d", strings.Repeat("a--", n+1)} {
				wantPut(t, f, s, putOf(f, s))
			}
		}
	}
}

// headings returns headings of each kind, and strings that are none.
func headings() []string {
	return []string{
		"Cats", "a", "Cats--Care", "Cats--Care--Germany--Now", "a--b--c--d--e", "Plato, 1900-", "Lee, Bo", "Lee, Bo, 1960-2001", "Plato, 1900-, 1950-", "Lee, Bo, Jr., 1960-",
		"Lee,Bo, 1960-", "--", "Cats--", " Cats -- Care ", " ", ", ", "1900-", "\u00c6gir's Stra\u00dfe", "-", "!", "\n", "\xff--a", strings.Repeat("x", 201),
	}
}

// P14.2: all sequences of up to four subfields.
func TestPutSequences(t *testing.T) {
	codes := []string{"a", "d", "x", "z", "b", "4"}
	for _, tag := range []string{"100", "110", "650", "830", "500"} {
		eachSequence(codes, 4, func(l []string) {
			f := to(len(l)*3, fd(tag, numberedSubs(l, 4)...))
			for _, s := range headings() {
				if got, want := Put(f, s), putOf(f, s); !sameField(got, want) {
					t.Errorf("Put of %s and %q is %s, want %s", shown(f), short(s), shown(got), shown(want))
				}
			}
		})
	}
}

// sameField compares fields.
func sameField(a, b api.Field) bool {
	return a.Tag == b.Tag && a.Ind == b.Ind && a.Auth == b.Auth && slices.Equal(a.Subs, b.Subs)
}

// wantPutting checks what P14.7 says of a field with a kind and a text that is not empty.
func wantPutting(t *testing.T, f api.Field, s string) {
	t.Helper()
	put := Put(f, s)
	if got := Heading(put); got != s && (kindOf(f.Tag) != api.AuSubject || strings.Join(heading.Parts(s), "--") == s) {
		t.Errorf("the heading of Put of %s and %q is %q", shown(f), short(s), short(got))
	}
	if again := Put(put, s); !sameField(again, put) {
		t.Errorf("Put of %s and %q is %s, a second time %s", shown(f), short(s), shown(put), shown(again))
	}
}

// P14.7: all sequences of up to five pieces of headings.
func TestPutting(t *testing.T) {
	pieces := []string{"a", "B\u00e9", ",", ", ", " ", "\u00a0", "-", "--", "1900-", "1900-1950"}
	eachSequence(pieces, 5, func(l []string) {
		s := strings.Join(l, "")
		if s == "" {
			return
		}
		for _, f := range []api.Field{fd("100", "4aut", "aSmith", "d1950-"), fd("710", "bb", "aa"), fd("650", "v1", "zz", "xx", "aa"), fd("830", "aa", "v2")} {
			wantPutting(t, f, s)
			if got, want := Put(f, s), putOf(f, s); !sameField(got, want) {
				t.Errorf("Put of %s and %q is %s, want %s", shown(f), s, shown(got), shown(want))
			}
		}
	})
}

// P14.7: random fields and texts.
func TestPuttingRandom(t *testing.T) {
	r := rand.New(rand.NewSource(1))
	pieces := []string{"a", "Z", "\u00e4", "\u00df", "\u0400", "\uffff", "0", "1950-", "1950-2001", "-", "--", ",", ", ", " ", "\u00a0", "$", "!", "x y"}
	for range 50000 {
		f := api.Field{Tag: pick(r, kinded...), Ind: pick(r, "  ", "1 ", "00"), Auth: r.Intn(3)}
		for range r.Intn(9) {
			f.Subs = append(f.Subs, api.Sub{Code: pick(r, []byte("aaddxyzbv4\x00\xff")...), Value: pick(r, pieces...) + pick(r, pieces...)})
		}
		s := pick(r, pieces...)
		for range r.Intn(8) {
			s += pick(r, pieces...)
		}
		if !text.Valid(s) {
			t.Fatalf("%q is no text", s)
		}
		wantPutting(t, f, s)
		if got, want := Put(f, s), putOf(f, s); !sameField(got, want) {
			t.Errorf("Put of %s and %q is %s, want %s", shown(f), s, shown(got), shown(want))
		}
	}
}

// Long headings, and the empty one, for which nothing but an end is promised.
func TestPutLong(t *testing.T) {
	const n = 1 << 17
	for _, tag := range slices.Concat(kinded, kindless) {
		Put(fd(tag), "")
		Put(fd(tag, "aDogs", "4aut"), "")
		for _, unit := range []string{"x", "--", "a--", "a, ", ", ", ",", " ", "\u00a0", "\xff", "\u00df"} {
			s := strings.Repeat(unit, n)
			within(t, "Put of a long heading", func() {
				if got, want := Put(fd(tag, "aDogs", "4aut"), s), putOf(fd(tag, "aDogs", "4aut"), s); !sameField(got, want) {
					t.Errorf("Put of a long heading %q.. in %s is %s, want %s", short(s[:9]), tag, shown(got), shown(want))
				}
			})
		}
		within(t, "Put in a long field", func() {
			f := fd(tag, slices.Repeat([]string{"ab", "4aut", "xc"}, n/3)...)
			if got, want := Put(f, "a--b"), putOf(f, "a--b"); !sameField(got, want) {
				t.Errorf("Put in a long field %s is %s, want %s", tag, shown(got), shown(want))
			}
		})
	}
}
