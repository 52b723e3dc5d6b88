package authority

import (
	"fmt"
	"math/rand"
	"slices"
	"strings"
	"testing"

	"library/api"
)

// numbered returns a right file of n subjects.
func numbered(n int) []api.Authority {
	var l []api.Authority
	for i := range n {
		l = append(l, auth(i+1, fmt.Sprint("Theme ", i+1)))
	}
	return l
}

// many returns n different variants.
func many(name string, n int) []string {
	var see []string
	for i := range n {
		see = append(see, fmt.Sprint(name, " ", i))
	}
	return see
}

// P13.1: numbers of authorities.
func TestRightNumbers(t *testing.T) {
	wantRight(t, nil, api.OK)
	wantRight(t, []api.Authority{}, api.OK)
	for n := range 80 {
		want := api.OK
		if n > 64 {
			want = api.ErrFull
		}
		wantRight(t, numbered(n), want)
	}
	// Too many come before every other error.
	for _, m := range mistakes() {
		for _, at := range []int{1, 30, 62} {
			l := numbered(65)
			m.make(l, at)
			wantRight(t, l, api.ErrFull)
		}
	}
	wantRight(t, make([]api.Authority, 65), api.ErrFull)
	wantRight(t, make([]api.Authority, 64), api.ErrRange)
}

// P13.1: IDs near their limits, and beside each other.
func TestRightIDs(t *testing.T) {
	for _, id := range []int{-1 << 63, -10000, -9999, -2, -1, 0, 1, 2, 5000, 9998, 9999, 10000, 10001, 1 << 31, 1 << 32, 1<<32 + 1, 1<<63 - 1} {
		want := api.OK
		if id < 1 || id > 9999 {
			want = api.ErrRange
		}
		wantRight(t, []api.Authority{auth(id, "a")}, want)
	}
	for _, c := range []struct {
		ids  []int
		want api.Errno
	}{
		{[]int{1, 2}, api.OK}, {[]int{1, 9999}, api.OK}, {[]int{9998, 9999}, api.OK}, {[]int{5, 6, 7, 100}, api.OK},
		{[]int{1, 1}, api.ErrTwice}, {[]int{2, 1}, api.ErrTwice}, {[]int{9999, 9999}, api.ErrTwice}, {[]int{9999, 1}, api.ErrTwice}, {[]int{9999, 9998}, api.ErrTwice},
		{[]int{1, 2, 2}, api.ErrTwice}, {[]int{1, 3, 2}, api.ErrTwice}, {[]int{2, 2, 3}, api.ErrTwice}, {[]int{2, 1, 3}, api.ErrTwice}, {[]int{1, 2, 1}, api.ErrTwice}, {[]int{3, 4, 1, 2}, api.ErrTwice},
		{[]int{0, 1}, api.ErrRange}, {[]int{0, 0}, api.ErrRange}, {[]int{-1, 0}, api.ErrRange}, {[]int{-1, 1}, api.ErrRange}, {[]int{1, 0}, api.ErrRange}, {[]int{1, -1}, api.ErrRange}, {[]int{5, 0, 5}, api.ErrRange},
		{[]int{1, 10000}, api.ErrRange}, {[]int{10000, 1}, api.ErrRange}, {[]int{9999, 10000}, api.ErrRange}, {[]int{10000, 10000}, api.ErrRange}, {[]int{10001, 10000}, api.ErrRange},
		{[]int{5, 5, 0}, api.ErrTwice}, {[]int{5, 0, 0}, api.ErrRange}, {[]int{5, 4, 10000}, api.ErrTwice}, {[]int{5, 10000, 4}, api.ErrRange},
	} {
		l := numbered(len(c.ids))
		for i, id := range c.ids {
			l[i].ID = id
		}
		wantRight(t, l, c.want)
	}
	for at := range 64 {
		l := numbered(64)
		l[at].ID += 100
		if at < 63 {
			wantRight(t, l, api.ErrTwice)
		}
		l[at].ID = 9936 + at
		for i := at + 1; i < 64; i++ {
			l[i].ID = 9936 + i
		}
		wantRight(t, l, api.OK)
		for i := at; i < 64; i++ {
			l[i].ID++
		}
		wantRight(t, l, api.ErrRange)
	}
}

// P13.1: kinds.
func TestRightKinds(t *testing.T) {
	for _, kind := range []int{-1 << 63, -4, -3, -1, 0, 1, 2, 3, 4, 5, 6, 7, 256, 257, 1 << 32, 1<<32 + 3, 1<<63 - 1} {
		want := api.OK
		if kind < 1 || kind > 4 {
			want = api.ErrArg
		}
		for at := range 3 {
			l := numbered(3)
			l[at].Kind = kind
			wantRight(t, l, want)
		}
	}
}

// places returns files that have a heading as preferred form, and as first, middle and last variant, each as first, middle and last authority, and of a kind.
func places(s string, kind int) [][]api.Authority {
	var files [][]api.Authority
	for at := range 3 {
		for place := range 9 {
			l := numbered(3)
			l[at] = kinded(seen(l[at], many("Variant", 8)...), kind)
			if place == 0 {
				l[at].Heading = s
			} else {
				l[at].See[place-1] = s
			}
			files = append(files, l)
		}
		l := numbered(3)
		l[at] = kinded(seen(l[at], s), kind)
		files = append(files, l)
	}
	return files
}

// wantHeading checks a heading at all places, for subjects and for the other kinds.
func wantHeading(t *testing.T, s string, subject, other api.Errno) {
	t.Helper()
	for kind := 1; kind <= 4; kind++ {
		want := other
		if kind == api.AuSubject {
			want = subject
		}
		for _, l := range places(s, kind) {
			wantRight(t, l, want)
		}
	}
}

// P13.1: forms of headings.
func TestRightForms(t *testing.T) {
	for _, s := range []string{
		"a", "0", "Dogs", "Dogs and cats", "Smith, Ann, 1950-", "Guns, germs & steel: (1997)!", "\u00c9t\u00e9", "\u65e5\u672c", "\uffff", "a-b", "-a", "a-", "- a -", "a- -b", "(a)", "...a", "a--b", "A--B--C", "a--b--c--d", "a--!", "!--a", "a--b-c", "-a--b",
		"a--\u2003", "\u2003a", "\u00ab\u0100\u00bb",
	} {
		wantHeading(t, s, api.OK, api.OK)
	}
	// What is no heading of any kind.
	for _, s := range []string{
		"", " ", "\u00a0", "  ", "!", "...", "-", "--", "---", "----", "- -", "!--?", "\u00d7\u00f7", "()",
		" a", "a ", "a  b", "a\u00a0b", "\u00a0a", "a\u00a0", " a ", "a \u00a0b", " a--b", "a--b ", "a--b  c",
		"a\n", "\na", "a\tb", "a\x00", "a\x1f", "a\x7f", "a\u0080", "a\u009f", "a\xff", "\xc3", "a\xe9", "\xed\xa0\x80", "a\U00010000", "\U0001f600",
	} {
		wantHeading(t, s, api.ErrForm, api.ErrForm)
	}
	// What is one unless it is a subject: it is not its parts, joined.
	for _, s := range []string{
		"--a", "a--", "--a--", "----a", "a----", "a----b", "a -- b", "a --b", "a-- b", "a-- --b", "a-- ", "-- a", "a-----b", "a--b--", "--a--b", "a--b -- c", "a---- b", "a --", "---- ----a",
	} {
		if strings.HasSuffix(s, " ") || strings.HasPrefix(s, " ") {
			wantHeading(t, s, api.ErrForm, api.ErrForm)
			continue
		}
		wantHeading(t, s, api.ErrForm, api.OK)
	}
	// Three hyphens are two between the parts, and one that belongs to the part behind them.
	wantHeading(t, "a---b", api.OK, api.OK)
	wantHeading(t, "a---", api.OK, api.OK)
	wantHeading(t, "a--- b", api.OK, api.OK)
	wantHeading(t, "---a", api.ErrForm, api.OK)
}

// P13.1: each character of texts, and others, in headings.
func TestRightCharacters(t *testing.T) {
	for r := rune(0); r <= 0x10100; r++ {
		for _, s := range []string{string(r), "x" + string(r) + "y", "x" + string(r)} {
			l := []api.Authority{auth(1, s)}
			if got, want := Right(l), rightOf(l); got != want {
				t.Errorf("Right is %d, want %d, for the heading %q", got, want, s)
			}
		}
	}
	for c := range 256 {
		for _, s := range []string{string([]byte{byte(c)}), "a" + string([]byte{byte(c)}), string([]byte{0xC3, byte(c)}), "a" + string([]byte{byte(c)}) + "b"} {
			for _, l := range [][]api.Authority{{auth(1, s)}, {seen(auth(1, "other"), s)}} {
				if got, want := Right(l), rightOf(l); got != want {
					t.Errorf("Right is %d, want %d, for the heading %q", got, want, s)
				}
			}
		}
	}
}

// P13.1: all short headings of hyphens, blanks, letters and signs, for each kind.
func TestRightShort(t *testing.T) {
	units := []string{"-", "a", " ", "!", "\u00a0"}
	level := []string{""}
	for range 6 {
		var next []string
		for _, s := range level {
			for kind := 1; kind <= 4; kind++ {
				for _, l := range [][]api.Authority{{kinded(auth(1, s), kind)}, {kinded(seen(auth(1, "other"), s), kind)}} {
					if got, want := Right(l), rightOf(l); got != want {
						t.Errorf("Right is %d, want %d, for the heading %q of kind %d", got, want, s, kind)
					}
				}
			}
			for _, u := range units {
				next = append(next, s+u)
			}
		}
		level = next
	}
}

// P13.1: lengths in bytes, and numbers of parts.
func TestRightLengths(t *testing.T) {
	for n := 1; n <= 400; n++ {
		want := api.OK
		if n > 200 {
			want = api.ErrLong
		}
		l := []api.Authority{auth(1, strings.Repeat("a", n))}
		wantRight(t, l, want)
		l[0].Kind = api.AuPerson
		wantRight(t, l, want)
	}
	long := strings.Repeat("x", 195)
	wantHeading(t, long+"yyyy", api.OK, api.OK)
	wantHeading(t, long+"yyyyy", api.OK, api.OK)
	wantHeading(t, long+"yyyyyy", api.ErrLong, api.ErrLong)
	// Bytes are counted, not characters.
	wantHeading(t, strings.Repeat("\u00e9", 100), api.OK, api.OK)
	wantHeading(t, strings.Repeat("\u00e9", 100)+"a", api.ErrLong, api.ErrLong)
	wantHeading(t, strings.Repeat("\u65e5", 66)+"aa", api.OK, api.OK)
	wantHeading(t, strings.Repeat("\u65e5", 67), api.ErrLong, api.ErrLong)
	wantHeading(t, long[:97]+"--"+long[:101], api.OK, api.OK)
	wantHeading(t, long[:98]+"--"+long[:101], api.ErrLong, api.ErrLong)
	wantHeading(t, "a--b--c--d", api.OK, api.OK)
	wantHeading(t, "a--b--c--d--e", api.ErrLong, api.ErrLong)
	wantHeading(t, "a--b--c--d--!", api.ErrLong, api.ErrLong)
	wantHeading(t, "a--b--c--d--e--f--g", api.ErrLong, api.ErrLong)
	wantHeading(t, "a--b--c--d--"+long, api.ErrLong, api.ErrLong)
	// Empty pieces are no parts: only the form is wrong then, and only that of a subject.
	wantHeading(t, "a--b--c----d", api.ErrForm, api.OK)
	wantHeading(t, "--a--b--c--d--", api.ErrForm, api.OK)
	wantHeading(t, "a--b--c----d--e", api.ErrForm, api.ErrLong)
	// The form comes before the length.
	wantHeading(t, long+" yyyyyyy ", api.ErrForm, api.ErrForm)
	wantHeading(t, long+"  yyyyyyy", api.ErrForm, api.ErrForm)
	wantHeading(t, long+"yyyyyyy\n", api.ErrForm, api.ErrForm)
	wantHeading(t, strings.Repeat("!", 300), api.ErrForm, api.ErrForm)
	wantHeading(t, long+"yyyyy--", api.ErrForm, api.ErrLong)
	wantHeading(t, "a -- b--c--d--e", api.ErrForm, api.ErrLong)
	wantHeading(t, "a--b--c--d--e ", api.ErrForm, api.ErrForm)
}

// P13.1: several wrong headings in one authority: the first one counts, and See is too long only behind all of them.
func TestRightHeadingOrder(t *testing.T) {
	form, long := "x ", strings.Repeat("x", 201)
	wrong := map[string]api.Errno{form: api.ErrForm, long: api.ErrLong}
	for first, want := range wrong {
		for second := range wrong {
			for _, n := range []int{2, 8, 9, 20} {
				for i := range n + 1 {
					for j := i + 1; j <= n; j++ {
						a := seen(auth(1, "Theme"), many("Variant", n)...)
						put := func(at int, s string) {
							if at == 0 {
								a.Heading = s
							} else {
								a.See[at-1] = s
							}
						}
						put(i, first)
						put(j, second)
						wantRight(t, []api.Authority{a, auth(2, "")}, want)
						put(j, "Theme Z")
						wantRight(t, []api.Authority{a, auth(2, "")}, want)
					}
				}
			}
		}
	}
}

// P13.1: numbers of variants.
func TestRightSee(t *testing.T) {
	for n := range 30 {
		want := api.OK
		if n > 8 {
			want = api.ErrFull
		}
		for at := range 3 {
			for kind := 1; kind <= 4; kind++ {
				l := numbered(3)
				l[at] = kinded(seen(l[at], many("Variant", n)...), kind)
				wantRight(t, l, want)
			}
		}
	}
	l := numbered(64)
	for i := range l {
		l[i].See = many(fmt.Sprint("Variant ", i), 8)
	}
	wantRight(t, l, api.OK)
	l[63].See = append(l[63].See, "further")
	wantRight(t, l, api.ErrFull)
}

// P13.1: two headings with the same Norm, at all pairs of places, of the same kind and of different kinds.
func TestRightTwice(t *testing.T) {
	pairs := [][2]string{{"Dogs", "Dogs"}, {"Dogs", "DOGS."}, {"d\u00f4gs", "(Dogs)"}, {"Dogs--Training", "dogs--!--training."}, {"A b", "a-b"}}
	other := [][2]string{{"Dogs", "Dog"}, {"Dogs--Training", "Dogs Training"}, {"Dogs", "Dogs--Dogs"}, {"ab", "a b"}}
	put := func(a *api.Authority, at int, s string) {
		if at == 0 {
			a.Heading = s
		} else {
			a.See[at-1] = s
		}
	}
	for i := range 3 {
		for j := range 3 {
			for p := range 9 {
				for q := range 9 {
					if i == j && p == q {
						continue
					}
					for k, pair := range slices.Concat(pairs, other) {
						l := numbered(3)
						for x := range l {
							l[x].See = many(fmt.Sprint("Variant ", x), 8)
						}
						put(&l[i], p, pair[0])
						put(&l[j], q, pair[1])
						want := api.ErrTwice
						if k >= len(pairs) {
							want = api.OK
						}
						if got := Right(l); got != want {
							t.Errorf("Right is %d, want %d, for%s", got, want, shown(l))
						}
						if i == j {
							continue
						}
						l[j].Kind = 1 + (l[i].Kind+k)%4
						if l[j].Kind == l[i].Kind {
							l[j].Kind = api.AuPerson
						}
						if got := Right(l); got != api.OK {
							t.Errorf("Right is %d for different kinds in%s", got, shown(l))
						}
					}
				}
			}
		}
	}
	for kind := 1; kind <= 4; kind++ {
		for with := 1; with <= 4; with++ {
			want := api.OK
			if kind == with {
				want = api.ErrTwice
			}
			wantRight(t, []api.Authority{kinded(auth(1, "Dogs"), kind), kinded(auth(2, "dogs"), with)}, want)
			wantRight(t, []api.Authority{kinded(seen(auth(1, "Cats"), "Dogs"), kind), kinded(seen(auth(2, "Mice"), "dogs"), with)}, want)
		}
	}
}

// P13.1: lists of those above.
func TestRightAbove(t *testing.T) {
	file := func(above ...int) []api.Authority {
		l := numbered(8)
		l[7].Kind = api.AuPerson
		l[5].Above = above
		return l
	}
	for _, c := range []struct {
		above []int
		want  api.Errno
	}{
		{nil, api.OK}, {[]int{}, api.OK}, {[]int{1}, api.OK}, {[]int{7}, api.OK}, {[]int{1, 2}, api.OK}, {[]int{1, 7}, api.OK}, {[]int{1, 2, 3, 4}, api.OK}, {[]int{1, 3, 5, 7}, api.OK},
		{[]int{1, 2, 3, 4, 5}, api.ErrFull}, {[]int{1, 2, 3, 4, 4}, api.ErrFull}, {[]int{5, 4, 3, 2, 1}, api.ErrFull}, {[]int{0, 0, 0, 0, 0}, api.ErrFull}, {[]int{-1, 0, 8, 9, 10000}, api.ErrFull}, {[]int{1, 2, 3, 4, 6}, api.ErrFull}, {[]int{1, 1, 1, 1, 1, 1, 1}, api.ErrFull},
		{[]int{1, 1}, api.ErrTwice}, {[]int{2, 1}, api.ErrTwice}, {[]int{1, 2, 2}, api.ErrTwice}, {[]int{1, 3, 2}, api.ErrTwice}, {[]int{2, 2, 3}, api.ErrTwice}, {[]int{2, 1, 3}, api.ErrTwice}, {[]int{1, 2, 3, 3}, api.ErrTwice}, {[]int{1, 2, 4, 3}, api.ErrTwice}, {[]int{1, 2, 3, 1}, api.ErrTwice},
		{[]int{9, 1}, api.ErrTwice}, {[]int{0, 0}, api.ErrTwice}, {[]int{9, 9}, api.ErrTwice}, {[]int{-1, -2}, api.ErrTwice}, {[]int{0, 2, 2}, api.ErrTwice}, {[]int{8, 8}, api.ErrTwice}, {[]int{6, 6}, api.ErrTwice}, {[]int{1, 6, 5}, api.ErrTwice}, {[]int{10000, 1}, api.ErrTwice},
		{[]int{0}, api.ErrNone}, {[]int{-1}, api.ErrNone}, {[]int{9}, api.ErrNone}, {[]int{9999}, api.ErrNone}, {[]int{10000}, api.ErrNone}, {[]int{8}, api.ErrNone}, {[]int{1, 8}, api.ErrNone}, {[]int{0, 1}, api.ErrNone}, {[]int{-1 << 63, 1<<63 - 1}, api.ErrNone}, {[]int{1, 2, 3, 9}, api.ErrNone}, {[]int{0, 2, 3, 4}, api.ErrNone}, {[]int{6, 9}, api.ErrNone}, {[]int{6, 8}, api.ErrNone}, {[]int{1, 8, 9}, api.ErrNone},
		{[]int{6}, api.ErrLoop}, {[]int{1, 6}, api.ErrLoop}, {[]int{6, 7}, api.ErrLoop}, {[]int{1, 2, 5, 6}, api.ErrLoop},
	} {
		wantRight(t, file(c.above...), c.want)
	}
	// Every authority of the same kind, wherever it stands, and every other one.
	for i := range 8 {
		for id := -1; id <= 10; id++ {
			l := numbered(8)
			for k := range l {
				l[k].Kind = 1 + k%4
			}
			l[i].Above = []int{id}
			want := api.ErrNone
			switch {
			case id == i+1:
				want = api.ErrLoop
			case id >= 1 && id <= 8 && (id-1)%4 == i%4:
				want = api.OK
			}
			wantRight(t, l, want)
		}
	}
	l := numbered(64)
	l[0].Above, l[63].Above = []int{64}, []int{2, 33}
	wantRight(t, l, api.OK)
	l[0].Above = []int{65}
	wantRight(t, l, api.ErrNone)
}

// P13.1: loops of each length, and several ways without a loop.
func TestRightLoops(t *testing.T) {
	r := rand.New(rand.NewSource(13))
	for n := 1; n <= 64; n++ {
		for range 4 {
			l := numbered(64)
			at := r.Perm(64)
			for i := range n {
				l[at[i]].Above = []int{l[at[(i+1)%n]].ID}
			}
			wantRight(t, l, api.ErrLoop)
			// A way without an end leads into the loop.
			if n < 64 {
				l[at[n]].Above = []int{l[at[r.Intn(n)]].ID}
				wantRight(t, l, api.ErrLoop)
			}
			// The same way without its last step.
			l[at[n-1]].Above = nil
			wantRight(t, l, api.OK)
		}
	}
	wantRight(t, []api.Authority{auth(1, "a", 2, 3), auth(2, "b", 4), auth(3, "c", 4), auth(4, "d")}, api.OK)
	wantRight(t, []api.Authority{auth(1, "a"), auth(2, "b", 1), auth(3, "c", 1), auth(4, "d", 1, 2, 3)}, api.OK)
	wantRight(t, []api.Authority{auth(1, "a", 4), auth(2, "b", 1), auth(3, "c", 1), auth(4, "d", 2, 3)}, api.ErrLoop)
	wantRight(t, []api.Authority{auth(1, "a", 2, 3), auth(2, "b", 4), auth(3, "c", 4), auth(4, "d", 5), auth(5, "e", 3)}, api.ErrLoop)
	// A loop beside others, and one of another kind.
	wantRight(t, []api.Authority{auth(1, "a"), auth(2, "b", 1), auth(3, "c", 4), auth(4, "d", 3), auth(5, "e", 1, 2)}, api.ErrLoop)
	wantRight(t, []api.Authority{auth(1, "a"), auth(2, "b", 1), kinded(auth(3, "c", 4), 1), kinded(auth(4, "d", 3), 1)}, api.ErrLoop)
	wantRight(t, []api.Authority{auth(1, "a", 2), auth(2, "b", 3), auth(3, "c", 4), auth(4, "d", 2)}, api.ErrLoop)
}

// mistake makes one authority of a file wrong: its error, its group in P13.1 and its rank within the group.
type mistake struct {
	name        string
	err         api.Errno
	group, rank int
	make        func(l []api.Authority, at int)
}

// mistakes lists mistakes that can be made independently of each other.
func mistakes() []mistake {
	return []mistake{
		{"ID 0", api.ErrRange, 2, 1, func(l []api.Authority, at int) { l[at].ID = 0 }},
		{"ID above MaxID", api.ErrRange, 2, 1, func(l []api.Authority, at int) { l[at].ID = 10000 }},
		{"ID of the one before", api.ErrTwice, 2, 2, func(l []api.Authority, at int) { l[at].ID = l[at-1].ID }},
		{"Kind 0", api.ErrArg, 2, 3, func(l []api.Authority, at int) { l[at].Kind = 0 }},
		{"Kind 5", api.ErrArg, 2, 3, func(l []api.Authority, at int) { l[at].Kind = 5 }},
		{"form of the heading", api.ErrForm, 2, 4, func(l []api.Authority, at int) { l[at].Heading = " " + l[at].Heading }},
		{"length of the heading", api.ErrLong, 2, 5, func(l []api.Authority, at int) { l[at].Heading += strings.Repeat("x", 200) }},
		{"parts of the heading", api.ErrLong, 2, 5, func(l []api.Authority, at int) { l[at].Heading += "--b--c--d--e" }},
		{"form of a variant", api.ErrForm, 2, 6, func(l []api.Authority, at int) { l[at].See = slices.Insert(l[at].See, 0, " x") }},
		{"length of a variant", api.ErrLong, 2, 7, func(l []api.Authority, at int) { l[at].See = append(l[at].See, strings.Repeat("y", 201)) }},
		{"too many variants", api.ErrFull, 2, 8, func(l []api.Authority, at int) {
			l[at].See = append(l[at].See, many(fmt.Sprint("More ", at), 9)...)
		}},
		{"heading of another one", api.ErrTwice, 3, 1, func(l []api.Authority, at int) {
			l[at].See = append(l[at].See, fmt.Sprint("twice ", at))
			l[0].See = append(l[0].See, fmt.Sprint("Twice, ", at))
		}},
		{"too many above", api.ErrFull, 4, 1, func(l []api.Authority, at int) {
			l[at].Above = append(l[at].Above, 9001, 9002, 9003, 9004, 9005)
		}},
		{"twice above", api.ErrTwice, 4, 2, func(l []api.Authority, at int) { l[at].Above = append(l[at].Above, 2, 1) }},
		{"nobody above", api.ErrNone, 4, 3, func(l []api.Authority, at int) { l[at].Above = slices.Insert(l[at].Above, 0, -1) }},
		{"loop", api.ErrLoop, 5, 1, func(l []api.Authority, at int) { l[at].Above = append(l[at].Above, at+1) }},
	}
}

// before reports whether a mistake in the authority at i counts before another one in that at j.
func (m mistake) before(i int, n mistake, j int) bool {
	switch {
	case m.group != n.group:
		return m.group < n.group
	case m.group != 3 && m.group != 5 && i != j:
		return i < j
	}
	return m.rank <= n.rank
}

// P13.1: each error alone, and each pair of them in one authority and in two.
func TestRightOrder(t *testing.T) {
	for _, m := range mistakes() {
		for at := 1; at < 5; at++ {
			l := numbered(6)
			m.make(l, at)
			wantRight(t, l, m.err)
		}
		for _, n := range mistakes() {
			for i := 1; i < 5; i++ {
				for j := 1; j < 5; j++ {
					if m.name == n.name && i == j {
						continue
					}
					l := numbered(6)
					// What changes the ID to another one's is done first, so that ErrRange can follow in the same authority.
					if n.rank == 2 && n.group == 2 {
						n.make(l, j)
						m.make(l, i)
					} else {
						m.make(l, i)
						n.make(l, j)
					}
					want := n.err
					if m.before(i, n, j) {
						want = m.err
					}
					if got := Right(l); got != want || rightOf(l) != want {
						t.Errorf("%s at %d and %s at %d: Right is %d, want %d (%d by the description), for%s", m.name, i, n.name, j, got, want, rightOf(l), shown(l))
					}
				}
			}
		}
	}
}

// P13.1: right files, and the same ones with one to three mistakes, against the description.
func TestRightRandom(t *testing.T) {
	r := rand.New(rand.NewSource(1))
	seenErrors := map[api.Errno]int{}
	for range 15000 {
		l := randomFile(r, 12)
		if got := Right(l); got != api.OK {
			t.Fatalf("Right is %d, want OK, for%s", got, shown(l))
		}
		for range r.Intn(4) {
			spoil(r, l)
		}
		want := rightOf(l)
		seenErrors[want]++
		if got := Right(l); got != want {
			t.Errorf("Right is %d, want %d, for%s", got, want, shown(l))
		}
	}
	for _, e := range []api.Errno{api.OK, api.ErrRange, api.ErrTwice, api.ErrArg, api.ErrForm, api.ErrLong, api.ErrFull, api.ErrNone, api.ErrLoop} {
		if seenErrors[e] < 20 {
			t.Errorf("error %d appears only %d times", e, seenErrors[e])
		}
	}
}

// spoil changes something in a file.
func spoil(r *rand.Rand, l []api.Authority) {
	if len(l) == 0 {
		return
	}
	a, b := &l[r.Intn(len(l))], &l[r.Intn(len(l))]
	switch r.Intn(10) {
	case 0:
		a.ID = []int{-1, 0, 10000, b.ID, 9999}[r.Intn(5)]
	case 1:
		a.Kind = []int{-1, 0, 5, b.Kind, 1, 2, 3, 4}[r.Intn(8)]
	case 2:
		a.Heading = []string{"", "a ", "a--", "\n", strings.Repeat("z", 201), b.Heading, "a--b--c--d--e", "new"}[r.Intn(8)]
	case 3:
		a.See = append(a.See, []string{"", "a ", "--a", "\n", strings.Repeat("z", 201), b.Heading, "a--b--c--d--e", "new", strings.ToUpper(b.Heading)}[r.Intn(9)])
	case 4:
		a.See = append(a.See, many("Variant", r.Intn(12))...)
	case 5:
		a.Above = append(a.Above, b.ID)
	case 6, 7:
		a.Above = append(a.Above, b.ID)
		slices.Sort(a.Above)
		a.Above = slices.Compact(a.Above)
	case 8:
		a.Above = slices.Insert(a.Above, 0, r.Intn(20)-2)
	case 9:
		b.Above = slices.Clone(a.Above)
	}
}
