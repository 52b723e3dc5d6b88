package control

import (
	"slices"
	"strings"
	"testing"

	"library/api"
)

// various returns a file with authorities of all kinds; some headings are there with several kinds.
func various() []api.Authority {
	return []api.Authority{
		au(2, api.AuSubject, "Animals", "Beasts"),
		au(3, api.AuPerson, "Smith, Ann, 1950-", "Smith, A.", "Jones, Ann"),
		au(4, api.AuPerson, "Dogs", "Plato"),
		{ID: 7, Kind: api.AuSubject, Heading: "Dogs", See: []string{"Hounds", "Canis--Familiaris"}, Above: []int{2}},
		au(8, api.AuBody, "Dogs club", "Kennel club", "Hounds"),
		au(9, api.AuSubject, "Dogs--History--Germany"),
		au(11, api.AuSeries, "\u00c6gir's Stra\u00dfe", "Cats"),
		au(12, api.AuSeries, "Lee, Bo, 1960-", "Dogs club"),
		au(13, api.AuPerson, "Lee, Bo"),
		au(9999, api.AuSubject, "Art--France, 1900-"),
	}
}

// variousRecord puts fields between others of the kind 0, which are not linked whatever they contain.
func variousRecord(fields ...api.Field) api.Record {
	list := []api.Field{fd("245", "aDogs"), to(7, fd("500", "aHounds"))}
	for _, f := range fields {
		list = append(list, f, fd("490", "aCats"))
	}
	return rec(5, list...)
}

// wantLinked checks what becomes of the Auth of a field, alone and between others.
func wantLinked(t *testing.T, f api.Field, id int) {
	t.Helper()
	l := various()
	for _, n := range []int{0, 1, 3} {
		r := variousRecord(slices.Repeat([]api.Field{f}, n)...)
		wantValid(t, l, r)
		wantLink(t, l, r, variousRecord(slices.Repeat([]api.Field{to(id, f)}, n)...))
	}
	wantLink(t, l, rec(0, f), rec(0, to(id, f)))
	wantLink(t, nil, rec(0, f), rec(0, f))
}

// P14.3: headings that are found.
func TestLink(t *testing.T) {
	for _, tag := range []string{"650", "651"} {
		wantLinked(t, fd(tag, "aAnimals"), 2)
		wantLinked(t, fd(tag, "aDogs"), 7)
		wantLinked(t, fd(tag, "aHounds"), 7)
		wantLinked(t, fd(tag, "aBeasts"), 2)
		wantLinked(t, fd(tag, "aCanis", "xFamiliaris"), 7)
		wantLinked(t, fd(tag, "aCanis--Familiaris"), 7)
		wantLinked(t, fd(tag, "aDogs", "xHistory", "zGermany"), 9)
		wantLinked(t, fd(tag, "v7", "aDogs", "bB", "yHistory", "aGermany", "4x"), 9)
		wantLinked(t, fd(tag, "aArt", "xFrance, 1900-"), 9999)
		// With capital and small letters and marks.
		wantLinked(t, fd(tag, "adogs"), 7)
		wantLinked(t, fd(tag, "aDOGS!"), 7)
		wantLinked(t, fd(tag, "a h\u00f4unds."), 7)
		wantLinked(t, fd(tag, "aCANIS (dogs)", "xfamiliaris"), 0)
		wantLinked(t, fd(tag, "aCANIS:", "x...", "xfamiliaris"), 7)
		wantLinked(t, fd(tag, "aart", "x(France) [1900]"), 9999)
	}
	for _, tag := range []string{"100", "600", "700"} {
		wantLinked(t, fd(tag, "aSmith, Ann", "d1950-"), 3)
		wantLinked(t, fd(tag, "d1950-", "4aut", "aSmith, Ann"), 3)
		wantLinked(t, fd(tag, "asmith", "aann", "d1950"), 3)
		wantLinked(t, fd(tag, "aSmith, Ann, 1950-"), 3)
		wantLinked(t, fd(tag, "aSmith, A."), 3)
		wantLinked(t, fd(tag, "aJONES (Ann)"), 3)
		wantLinked(t, fd(tag, "aPlat\u00f3"), 4)
		wantLinked(t, fd(tag, "aLee, Bo"), 13)
		wantLinked(t, fd(tag, "adogs"), 4)
	}
	for _, tag := range []string{"110", "610", "710"} {
		wantLinked(t, fd(tag, "aDogs club"), 8)
		wantLinked(t, fd(tag, "bBoard", "adogs, CLUB", "aDogs"), 8)
		wantLinked(t, fd(tag, "aHounds", "xHistory"), 8)
	}
	for _, tag := range []string{"440", "830"} {
		wantLinked(t, fd(tag, "aAegir S strasse", "v7"), 11)
		wantLinked(t, fd(tag, "v7", "acats"), 11)
		wantLinked(t, fd(tag, "aLee, Bo, 1960-"), 12)
		wantLinked(t, fd(tag, "aDogs club"), 12)
	}
}

// P14.3: headings that are not found, or with another kind only, or empty.
func TestLinkNothing(t *testing.T) {
	for _, f := range []api.Field{
		fd("650", "aSmith, Ann, 1950-"), fd("650", "aDogs club"), fd("650", "aCats"), fd("650", "aPlato"), fd("650", "aDogs", "xHistory"), fd("650", "aDogs", "xHistory", "zGermany", "yNow"), fd("650", "aHistory", "xDogs", "zGermany"), fd("650", "aDog"), fd("650", "aDogs s"),
		fd("651", "aDogs", "aDogs"), fd("651", "dDogs"), fd("651", "bDogs", "vHounds"), fd("651", "a--"), fd("651", "a!", "x?"), fd("651", "a "),
		fd("100", "aAnimals"), fd("100", "aHounds"), fd("100", "aDogs club"), fd("100", "aSmith, Ann"), fd("100", "aSmith, Ann", "d1951-"), fd("100", "aLee, Bo", "d1960-"), fd("100", "aDogs--History--Germany"), fd("700", "d1950-"), fd("700", "4aut"), fd("700", "a--"), fd("600", "xDogs"),
		fd("110", "aDogs"), fd("110", "bDogs club"), fd("110", "aDogs", "bclub"), fd("710", "aNo", "aDogs club"), fd("710", "aCats"), fd("610", "xDogs club"), fd("610", "a()"),
		fd("440", "aDogs"), fd("440", "aHounds"), fd("440", "vCats"), fd("440", "aKennel club"), fd("830", "aLee, Bo", "d1960-"), fd("830", "a\u00a0"),
	} {
		wantLinked(t, f, 0)
	}
	for _, rule := range []string{"020", "041", "245", "246", "490", "500", "776", "856", "999", "655"} {
		for _, s := range []string{"Dogs", "Dogs club", "Cats", "Lee, Bo", "Animals"} {
			wantLinked(t, fd(rule, "a"+s), 0)
		}
	}
}

// P14.3: fields that are linked already stay linked as they are.
func TestLinkLinked(t *testing.T) {
	l := various()
	for _, id := range []int{1, 2, 3, 7, 8, 9998, 9999} {
		for _, f := range []api.Field{fd("650", "aDogs"), fd("650", "aBeasts"), fd("100", "aSmith, A."), fd("110", "aNobody"), fd("830", "acats"), fd("245", "aDogs")} {
			r := variousRecord(to(id, f), f, to(id, f))
			wantLink(t, l, r, variousRecord(to(id, f), to(findOf(l, kindOf(f.Tag), headingOf(f)), f), to(id, f)))
		}
	}
	for _, id := range []int{-1 << 63, -1, 10000, 1<<63 - 1} {
		wantLink(t, l, rec(1, to(id, fd("650", "aDogs"))), rec(1, to(id, fd("650", "aDogs"))))
	}
}

// P14.3: the other parts of the record stay, and records without fields.
func TestLinkParts(t *testing.T) {
	l := various()
	for _, r := range []api.Record{{}, {ID: 9999, Version: 1, Kind: 4, Lang: "deu"}, {ID: 0, Version: 2, Kind: 2, Lang: "zzz", Fields: []api.Field{}}} {
		wantLink(t, l, r, r)
		wantLink(t, nil, r, r)
		wantFollow(t, l, r, r)
		wantFollow(t, nil, r, r)
		r.Fields = []api.Field{{Tag: "651", Ind: " 9", Subs: []api.Sub{{Code: '0', Value: "x"}, {Code: 'z', Value: "hounds"}}}}
		want := copyOf(r)
		want.Fields[0].Auth = 7
		wantLink(t, l, r, want)
		r.Fields[0].Auth = 7
		want.Fields[0].Subs = []api.Sub{{Code: 'a', Value: "Dogs"}, {Code: '0', Value: "x"}}
		wantFollow(t, l, r, want)
	}
}

// wantFollowed checks what becomes of a field, alone and between others.
func wantFollowed(t *testing.T, f, want api.Field) {
	t.Helper()
	l := various()
	for _, n := range []int{0, 1, 3} {
		r := variousRecord(slices.Repeat([]api.Field{f}, n)...)
		wantValid(t, l, r)
		wantFollow(t, l, r, variousRecord(slices.Repeat([]api.Field{want}, n)...))
	}
	wantFollow(t, l, rec(0, f), rec(0, want))
	wantFollow(t, nil, rec(0, f), rec(0, f))
}

// P14.4: fields whose authority has another heading.
func TestFollow(t *testing.T) {
	for _, tag := range []string{"650", "651"} {
		wantFollowed(t, to(7, fd(tag, "aHounds")), to(7, fd(tag, "aDogs")))
		wantFollowed(t, to(7, fd(tag, "aCats", "xCare")), to(7, fd(tag, "aDogs")))
		wantFollowed(t, to(7, fd(tag, "v7", "zCanis", "bB", "aFamiliaris", "4x")), to(7, fd(tag, "aDogs", "v7", "bB", "4x")))
		wantFollowed(t, to(9, fd(tag, "aCats")), to(9, fd(tag, "aDogs", "xHistory", "xGermany")))
		wantFollowed(t, to(9, fd(tag, "v7", "d1950-")), to(9, fd(tag, "aDogs", "xHistory", "xGermany", "v7", "d1950-")))
		wantFollowed(t, to(9999, fd(tag, "aArt")), to(9999, fd(tag, "aArt", "xFrance, 1900-")))
		// Where only the case of letters or marks differ.
		wantFollowed(t, to(7, fd(tag, "adogs", "4x")), to(7, fd(tag, "aDogs", "4x")))
		wantFollowed(t, to(7, fd(tag, "bB", "aDogs.")), to(7, fd(tag, "aDogs", "bB")))
		wantFollowed(t, to(7, fd(tag, "a Dogs")), to(7, fd(tag, "aDogs")))
		wantFollowed(t, to(7, fd(tag, "aD\u00f6gs")), to(7, fd(tag, "aDogs")))
		wantFollowed(t, to(9, fd(tag, "aDogs", "xhistory", "zGermany")), to(9, fd(tag, "aDogs", "xHistory", "xGermany")))
		wantFollowed(t, to(9, fd(tag, "aDogs--History", "z!", "zGermany")), to(9, fd(tag, "aDogs", "xHistory", "xGermany")))
	}
	for _, tag := range []string{"100", "600", "700"} {
		wantFollowed(t, to(3, fd(tag, "aJones, Ann", "4aut")), to(3, fd(tag, "aSmith, Ann", "d1950-", "4aut")))
		wantFollowed(t, to(3, fd(tag, "aSmith, Ann", "4aut", "d1951-", "xx")), to(3, fd(tag, "aSmith, Ann", "d1950-", "4aut", "xx")))
		wantFollowed(t, to(3, fd(tag, "aSmith, ann", "d1950-")), to(3, fd(tag, "aSmith, Ann", "d1950-")))
		wantFollowed(t, to(3, fd(tag, "aSmith", "aAnn", "d1950-")), to(3, fd(tag, "aSmith, Ann", "d1950-")))
		wantFollowed(t, to(3, fd(tag, "4aut")), to(3, fd(tag, "aSmith, Ann", "d1950-", "4aut")))
		wantFollowed(t, to(4, fd(tag, "aPlato", "d1900-")), to(4, fd(tag, "aDogs")))
		wantFollowed(t, to(13, fd(tag, "aLee, Bo", "d1960-")), to(13, fd(tag, "aLee, Bo")))
	}
	for _, tag := range []string{"110", "610", "710"} {
		wantFollowed(t, to(8, fd(tag, "bBoard", "aKennel club")), to(8, fd(tag, "aDogs club", "bBoard")))
		wantFollowed(t, to(8, fd(tag, "aDogs Club", "aDogs club", "xNow")), to(8, fd(tag, "aDogs club", "xNow")))
		wantFollowed(t, to(8, fd(tag, "bDogs club")), to(8, fd(tag, "aDogs club", "bDogs club")))
	}
	for _, tag := range []string{"440", "830"} {
		wantFollowed(t, to(11, fd(tag, "v7", "acats")), to(11, fd(tag, "a\u00c6gir's Stra\u00dfe", "v7")))
		wantFollowed(t, to(11, fd(tag, "aaegir s strasse")), to(11, fd(tag, "a\u00c6gir's Stra\u00dfe")))
		wantFollowed(t, to(12, fd(tag, "aLee, Bo", "d1960-")), to(12, fd(tag, "aLee, Bo, 1960-", "d1960-")))
	}
}

// P14.4: fields whose heading is right stay as they are, even if Put would choose other subfields.
func TestFollowRight(t *testing.T) {
	for _, f := range []api.Field{
		to(7, fd("650", "aDogs")), to(7, fd("650", "v7", "zDogs", "bB")), to(2, fd("651", "d1950-", "yAnimals")), to(9, fd("650", "aDogs", "xHistory", "zGermany")), to(9, fd("650", "zDogs", "4x", "xHistory--Germany")), to(9, fd("651", "aDogs--History--Germany", "vv")),
		to(3, fd("100", "aSmith, Ann", "d1950-")), to(3, fd("100", "d1950-", "4aut", "aSmith, Ann", "d1960-")), to(3, fd("700", "aSmith, Ann, 1950-")), to(3, fd("600", "xx", "aSmith,", "aAnn", "d1950-")), to(4, fd("600", "4aut", "aDogs", "zz")), to(13, fd("700", "aLee, Bo")),
		to(8, fd("110", "bBoard", "aDogs club", "aDogs")), to(8, fd("610", "xx", "aDogs club")), to(11, fd("440", "v7", "a\u00c6gir's Stra\u00dfe")), to(12, fd("830", "v7", "aLee, Bo, 1960-", "v8")),
	} {
		wantFollowed(t, f, f)
	}
}

// P14.4: fields without a link, or with one to no authority or to one of another kind, stay as they are.
func TestFollowNothing(t *testing.T) {
	l := various()
	for _, f := range []api.Field{fd("650", "ahounds"), fd("100", "aPlato"), fd("110", "aKennel club"), fd("440", "acats"), fd("245", "aDogs"), fd("999", "ahounds", "xx"), fd("655", "bB")} {
		for _, id := range []int{0, 1, 5, 6, 10, 14, 9998} {
			wantFollowed(t, to(id, f), to(id, f))
		}
		for _, a := range l {
			if a.Kind != kindOf(f.Tag) {
				wantFollowed(t, to(a.ID, f), to(a.ID, f))
			}
		}
		for _, id := range []int{-1 << 63, -1, 10000, 1<<63 - 1} {
			wantFollow(t, l, rec(1, to(id, f)), rec(1, to(id, f)))
		}
	}
}

// P14.4: the result of a valid record need not be valid.
func TestFollowFull(t *testing.T) {
	l := various()
	others := slices.Repeat([]string{"v7"}, api.MaxSubs-1)
	r := rec(1, to(9, fd("650", append([]string{"aCats"}, others...)...)))
	wantValid(t, l, r)
	wantFollow(t, l, r, rec(1, to(9, fd("650", append([]string{"aDogs", "xHistory", "xGermany"}, others...)...))))
	r = rec(1, to(8, fd("710", append(others, "bB")...)))
	wantValid(t, l, r)
	wantFollow(t, l, r, rec(1, to(8, fd("710", append(append([]string{"aDogs club"}, others...), "bB")...))))
}

// P14.3, P14.4: every authority of a full file, with all its headings, and records with as many fields as there can be.
func TestFull(t *testing.T) {
	var l []api.Authority
	for i := range api.MaxAuths {
		a := au(i*150+1, i%4+1, "Heading "+strings.Repeat("i", i+1))
		for j := range api.MaxSee {
			a.See = append(a.See, strings.Repeat("V", j+1)+strings.Repeat("i", i))
		}
		l = append(l, a)
	}
	tags := []string{"", "700", "710", "651", "830"}
	for j := range api.MaxSee + 1 {
		var fields, linked, followed []api.Field
		for _, a := range l {
			s := slices.Concat([]string{a.Heading}, a.See)[j]
			fields = append(fields, fd(tags[a.Kind], "v1", "a"+strings.ToLower(s)))
			linked = append(linked, to(a.ID, fd(tags[a.Kind], "v1", "a"+strings.ToLower(s))))
			followed = append(followed, to(a.ID, fd(tags[a.Kind], "a"+a.Heading, "v1")))
		}
		wantValid(t, l, rec(1, fields...))
		wantLink(t, l, rec(1, fields...), rec(1, linked...))
		wantFollow(t, l, rec(1, linked...), rec(1, followed...))
	}
}
