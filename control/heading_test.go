package control

import (
	"fmt"
	"slices"
	"strings"
	"testing"

	"library/api"
	"library/rules"
)

// P14.1: every tag of three digits, by the table, and every standard rule.
func TestKind(t *testing.T) {
	count := 0
	for n := range 1000 {
		tag := fmt.Sprintf("%03d", n)
		wantKind(t, tag, kindOf(tag))
		if Kind(tag) != 0 {
			count++
		}
	}
	if count != len(kinded) {
		t.Errorf("%d tags have a kind, want %d", count, len(kinded))
	}
	list := rules.Standard()
	if len(list) != 25 {
		t.Fatalf("%d standard rules", len(list))
	}
	for _, rule := range list {
		wantKind(t, rule.Tag, rule.Auth)
	}
	for tag, kind := range map[string]int{"100": api.AuPerson, "600": api.AuPerson, "700": api.AuPerson, "110": api.AuBody, "610": api.AuBody, "710": api.AuBody, "650": api.AuSubject, "651": api.AuSubject, "440": api.AuSeries, "830": api.AuSeries} {
		wantKind(t, tag, kind)
	}
	for _, tag := range []string{"020", "022", "041", "245", "246", "250", "260", "264", "300", "490", "500", "520", "776", "787", "856", "000", "001", "101", "652", "999"} {
		wantKind(t, tag, 0)
	}
}

// P14.1: strings that are no tags, and what callers do to the rules.
func TestKindOther(t *testing.T) {
	for _, tag := range []string{"", "1", "10", "65", "50", "1000", "0100", "6500", "0650", " 650", "650 ", " 65", "65 ", "65\x00", "65a", "65\xb0", "\xff\xfe\xfd", "abc", "-50", "+10", "6.5", "\u0666\u0665\u0660", "\uff16\uff15\uff10", "650@3", "650 #0 $aDogs", strings.Repeat("650", 1<<20)} {
		wantKind(t, tag, 0)
	}
	for _, tag := range kinded {
		for i := range len(tag) {
			for c := range 256 {
				other := tag[:i] + string([]byte{byte(c)}) + tag[i+1:]
				wantKind(t, other, kindOf(other))
			}
			wantKind(t, tag[:i]+tag[i+1:], 0)
			wantKind(t, tag[:i]+tag[i:i+1]+tag[i:], kindOf(tag[:i]+tag[i:i+1]+tag[i:]))
		}
	}
	list := rules.Standard()
	for i := range list {
		list[i] = api.TagRule{Tag: "245", Auth: 3}
	}
	wantKind(t, "245", 0)
	wantKind(t, "100", api.AuPerson)
}

// P14.1: persons.
func TestHeadingPerson(t *testing.T) {
	for _, tag := range []string{"100", "600", "700"} {
		want := func(s string, subs ...string) {
			t.Helper()
			wantHeading(t, fd(tag, subs...), s)
			wantHeading(t, to(3, fd(tag, subs...)), s)
		}
		want("")
		want("Smith, Ann", "aSmith, Ann")
		want("Smith, Ann, 1950-", "aSmith, Ann", "d1950-")
		want("Smith, Ann, 1950-", "d1950-", "aSmith, Ann")
		want("Smith, Ann, 1950-", "4aut", "aSmith, Ann", "xPoetry", "d1950-", "zGermany")
		want(", 1950-", "d1950-")
		want(", 1950-", "4aut", "d1950-", "xPoetry")
		want("", "4aut", "xPoetry", "yLife", "zGermany", "bIII")
		// Several of both: all a's, and the first d.
		want("Smith Ann", "aSmith", "aAnn")
		want("Smith Ann Bo, 1950-", "aSmith", "d1950-", "aAnn", "d1960-", "aBo")
		want("Smith, 1950-", "d1950-", "d1960-", "aSmith")
		want(", 1960-", "d1960-", "d1950-")
		want("Smith Smith, 1", "aSmith", "d1", "aSmith", "d1")
		// Values that are empty are values.
		want("", "a")
		want(" ", "a", "a")
		want("Smith ", "aSmith", "a")
		want(" Smith", "a", "aSmith")
		want(", ", "d")
		want(", ", "a", "d")
		want("Smith, ", "aSmith", "d")
		want("Smith, ", "aSmith", "d", "d1950-")
		want("Smith, 1950-", "aSmith", "d1950-", "d")
		// Nothing is cleaned or divided.
		want(" Smith,Ann , 1950 - ", "a Smith,Ann ", "d1950 - ")
		want("a--b, x\n\xff", "aa--b", "dx\n\xff")
	}
}

// P14.1: bodies and series.
func TestHeadingName(t *testing.T) {
	for _, tag := range []string{"110", "610", "710", "440", "830"} {
		want := func(s string, subs ...string) {
			t.Helper()
			wantHeading(t, fd(tag, subs...), s)
			wantHeading(t, to(3, fd(tag, subs...)), s)
		}
		want("")
		want("Dogs club", "aDogs club")
		want("Dogs club", "aDogs club", "bBoard", "v7", "d1950-", "xHistory", "yNow", "zGermany")
		want("Dogs club", "bBoard", "v7", "d1950-", "xHistory", "yNow", "zGermany", "aDogs club")
		want("Dogs club", "xHistory", "aDogs club", "v7")
		want("", "bBoard", "v7", "d1950-", "xHistory", "yNow", "zGermany")
		want("One", "aOne", "aTwo")
		want("Two", "aTwo", "bx", "aOne", "aThree")
		want("", "a")
		want("", "a", "aOne")
		want("One", "aOne", "a")
		want(" One--Two ", "a One--Two ")
		want("\n\xff", "a\n\xff")
	}
}

// P14.1: subjects.
func TestHeadingSubject(t *testing.T) {
	for _, tag := range []string{"650", "651"} {
		want := func(s string, subs ...string) {
			t.Helper()
			wantHeading(t, fd(tag, subs...), s)
			wantHeading(t, to(3, fd(tag, subs...)), s)
		}
		want("")
		want("Dogs", "aDogs")
		want("Dogs--History--Now--Germany", "aDogs", "xHistory", "yNow", "zGermany")
		want("Germany--Now--History--Dogs", "zGermany", "yNow", "xHistory", "aDogs")
		want("History--Now--Germany", "xHistory", "yNow", "zGermany")
		want("Dogs--Now--Germany", "aDogs", "yNow", "zGermany")
		want("Dogs--History--Germany", "aDogs", "xHistory", "zGermany")
		want("Dogs--History--Now", "aDogs", "xHistory", "yNow")
		want("a--a--x--x--y--y--z--z", "aa", "aa", "xx", "xx", "yy", "yy", "zz", "zz")
		want("x--a--x--a", "xx", "aa", "xx", "aa")
		want("Dogs--History", "4aut", "aDogs", "d1950-", "xHistory", "v7", "bIII", "wW")
		want("", "4aut", "d1950-", "v7", "bIII", "wW", "uU", "tT", "cC", "nN", "pP")
		want("", "a")
		want("--", "a", "x")
		want("Dogs--", "aDogs", "x")
		want("--Dogs--", "x", "aDogs", "z")
		want("Dogs--History--Now", "aDogs--History", "yNow")
		want(" a --\n\xff", "a a ", "x\n\xff")
	}
}

// P14.1: fields of the kind 0.
func TestHeadingNone(t *testing.T) {
	full := []string{"aDogs", "xHistory", "yNow", "zGermany", "d1950-", "bIII"}
	for _, rule := range rules.Standard() {
		if rule.Auth == 0 {
			wantHeading(t, fd(rule.Tag, full...), "")
			wantHeading(t, to(7, fd(rule.Tag, full...)), "")
		}
	}
	for _, tag := range kindless {
		wantHeading(t, fd(tag), "")
		wantHeading(t, fd(tag, full...), "")
		wantHeading(t, to(7, fd(tag, full...)), "")
	}
	wantHeading(t, api.Field{}, "")
}

// P14.1: every code beside those of the heading.
func TestHeadingCodes(t *testing.T) {
	for _, tag := range slices.Concat(kinded, kindless) {
		for c := range 256 {
			code := string([]byte{byte(c)})
			for _, f := range []api.Field{fd(tag, code+"1"), fd(tag, code+"1", "a2"), fd(tag, "a1", code+"2", "a3"), fd(tag, "a1", code+"2", "x3", "d4", "y5", "z6", code+"7")} {
				wantHeading(t, f, headingOf(f))
			}
		}
	}
}

// numberedSubs gives each subfield a value by its place; of the places in empty it is empty.
func numberedSubs(codes []string, empty int) []string {
	subs := slices.Clone(codes)
	for i := range subs {
		if empty>>i&1 == 0 {
			subs[i] += fmt.Sprint("v", i)
		}
	}
	return subs
}

// P14.1: all sequences of up to five subfields, and all of up to three with each choice of empty values.
func TestHeadingSequences(t *testing.T) {
	codes := []string{"a", "d", "x", "y", "z", "b", "4"}
	for _, tag := range []string{"100", "600", "110", "650", "830", "245"} {
		check := func(f api.Field) {
			if got, want := Heading(f), headingOf(f); got != want {
				t.Errorf("Heading of %s is %q, want %q", shown(f), got, want)
			}
		}
		eachSequence(codes, 5, func(l []string) { check(fd(tag, numberedSubs(l, 0)...)) })
		eachSequence(codes, 3, func(l []string) {
			for empty := range 1 << len(l) {
				check(fd(tag, numberedSubs(l, empty)...))
			}
		})
	}
}

// Fields with more subfields and longer values than a valid field has.
func TestHeadingLong(t *testing.T) {
	const n = 1 << 18
	for _, tag := range slices.Concat(kinded, kindless) {
		var f api.Field
		within(t, "Heading of many subfields", func() {
			f = fd(tag, slices.Repeat([]string{"ab", "d1", "xc"}, n/3)...)
			if got, want := Heading(f), headingOf(f); got != want {
				t.Errorf("Heading of many subfields of %s is %q, want %q", tag, short(got), short(want))
			}
		})
		f = fd(tag, "a"+strings.Repeat("--", n), "d"+strings.Repeat("1", n))
		if got, want := Heading(f), headingOf(f); got != want {
			t.Errorf("Heading of long subfields of %s is %q, want %q", tag, short(got), short(want))
		}
	}
}
