package control

import (
	"fmt"
	"math/rand"
	"slices"
	"strings"
	"testing"

	"library/api"
	"library/authority"
	"library/record"
)

// words are what random headings consist of.
var words = []string{"Dogs", "dogs", "Cats", "Lee", "LEE!", "\u00c6gir", "aegir", "1900-", "1900-1950", "History", "history."}

// randomHeading returns a heading that authorities and fields of any kind can have.
func randomHeading(r *rand.Rand) string {
	s := pick(r, words...)
	for range r.Intn(3) {
		s += pick(r, "--", ", ", " ", "-", ",") + pick(r, words...)
	}
	return s
}

// randomFile returns a valid file.
func randomFile(r *rand.Rand) []api.Authority {
	var l []api.Authority
	for range r.Intn(16) {
		a := au(r.Intn(20)+1, r.Intn(4)+1, randomHeading(r))
		for range r.Intn(3) {
			a.See = append(a.See, randomHeading(r))
		}
		for _, b := range l {
			if b.Kind == a.Kind && len(a.Above) < 2 && r.Intn(3) == 0 {
				a.Above = append(a.Above, b.ID)
			}
		}
		// What does not fit is left out.
		if longer, err := authority.Add(l, a); err == api.OK {
			l = longer
		}
	}
	return l
}

// randomField returns a valid field, often with a heading of the file.
func randomField(r *rand.Rand, l []api.Authority) api.Field {
	f := api.Field{Tag: pick(r, append(kinded, kinded[r.Intn(10)], "245", "500", "999")...), Ind: pick(r, "  ", "1 ")}
	for range r.Intn(4) {
		f.Subs = append(f.Subs, api.Sub{Code: pick(r, []byte("addxyzbv4")...), Value: pick(r, words...)})
	}
	s := randomHeading(r)
	if len(l) > 0 && r.Intn(3) > 0 {
		a := pick(r, l...)
		s = pick(r, append(a.See, a.Heading)...)
	}
	switch r.Intn(4) {
	case 0:
		f.Subs = append(f.Subs, api.Sub{Code: 'a', Value: s})
	case 1:
		f = putOf(f, s)
	case 2:
		f = putOf(f, strings.ToUpper(s))
	}
	if len(f.Subs) == 0 {
		f.Subs = append(f.Subs, api.Sub{Code: 'a', Value: s})
	}
	if r.Intn(2) == 0 {
		f.Auth = r.Intn(22)
	}
	return f
}

// randomRecord returns a valid record.
func randomRecord(r *rand.Rand, l []api.Authority) api.Record {
	rec := api.Record{ID: r.Intn(9), Version: r.Intn(3) + 1, Kind: r.Intn(4) + 1, Lang: pick(r, "eng", "deu")}
	for range r.Intn(12) {
		rec.Fields = append(rec.Fields, randomField(r, l))
	}
	return rec
}

// wantLinking checks what P14.8 says of Link, and returns its result.
func wantLinking(t *testing.T, l []api.Authority, r api.Record) api.Record {
	t.Helper()
	linked := Link(l, r)
	for _, i := range Loose(linked) {
		f := linked.Fields[i]
		if id, _, ok := authority.Find(l, Kind(f.Tag), Heading(f)); ok {
			t.Errorf("after Link with %s the field %s is loose, but Find finds %d", short(l), shown(f), id)
		}
	}
	if record.Right(linked) != api.OK {
		t.Errorf("Link of the valid record %s is %s, which is not valid", short(r), short(linked))
	}
	if again := Link(l, linked); !equal(again, linked) {
		t.Errorf("Link of %s is %s, Link of this %s", short(r), short(linked), short(again))
	}
	return linked
}

// wantFollowing checks what P14.8 says of Follow, and returns its result.
func wantFollowing(t *testing.T, l []api.Authority, r api.Record) api.Record {
	t.Helper()
	following := Follow(l, r)
	for _, f := range following.Fields {
		if a, ok := authority.Get(l, f.Auth); ok && Kind(f.Tag) != 0 && a.Kind == Kind(f.Tag) && Heading(f) != a.Heading {
			t.Errorf("after Follow the field %s does not have the heading %q", shown(f), a.Heading)
		}
	}
	if again := Follow(l, following); record.Right(following) == api.OK && !equal(again, following) {
		t.Errorf("Follow of %s is %s, Follow of this %s", short(r), short(following), short(again))
	}
	return following
}

// P14.3 to P14.5, P14.8: random files and records, against the description.
func TestLinking(t *testing.T) {
	r := rand.New(rand.NewSource(1))
	counts := map[string]int{}
	for range 4000 {
		l := randomFile(r)
		given := randomRecord(r, l)
		wantValid(t, l, given)
		wantLoose(t, given, looseOf(given)...)
		wantLink(t, l, given, linkOf(l, given))
		wantFollow(t, l, given, followOf(l, given))
		linked := wantLinking(t, l, given)
		wantFollowing(t, l, given)
		following := wantFollowing(t, l, linked)
		wantRecord(t, "Follow of Link", l, given, following, followOf(l, linkOf(l, given)))
		for i, f := range given.Fields {
			counts["fields"]++
			if linked.Fields[i].Auth != f.Auth {
				counts["linked"]++
			}
			if !equal(following.Fields[i].Subs, f.Subs) {
				counts["followed"]++
			}
			if slices.Contains(Loose(linked), i) {
				counts["loose"]++
			}
		}
	}
	for _, name := range []string{"linked", "followed", "loose"} {
		if counts[name] < counts["fields"]/20 {
			t.Errorf("too few fields are %s: %v", name, counts)
		}
	}
}

// P14.8 (G3): what is linked follows an authority that is renamed and merged.
func TestRenamed(t *testing.T) {
	r := rand.New(rand.NewSource(2))
	renamed, merged := 0, 0
	for range 3000 {
		l := randomFile(r)
		if len(l) == 0 {
			continue
		}
		given := Follow(l, Link(l, randomRecord(r, l)))
		a, b := pick(r, l...), pick(r, l...)
		if file, err := authority.Rename(l, a.ID, randomHeading(r)); err == api.OK {
			renamed++
			wantFollow(t, file, given, followOf(file, given))
			wantFollowing(t, file, given)
		}
		if file, err := authority.Merge(l, a.ID, b.ID); err == api.OK {
			merged++
			turned := Turn([]api.Record{given}, b.ID, a.ID)[0]
			wantFollow(t, file, turned, followOf(file, turned))
			wantFollowing(t, file, turned)
		}
	}
	if renamed < 1000 || merged < 100 {
		t.Errorf("only %d are renamed, %d merged", renamed, merged)
	}
}

// P14.5, P14.6, P14.9: random records.
func TestTurningRandom(t *testing.T) {
	r := rand.New(rand.NewSource(3))
	for range 2000 {
		l := randomFile(r)
		var records []api.Record
		for range r.Intn(6) {
			records = append(records, randomRecord(r, l))
		}
		from, into := r.Intn(24)-2, r.Intn(24)-2
		wantUses(t, records, from, usesOf(records, from)...)
		wantTurn(t, records, from, into, turnOf(records, from, into))
		if from > 0 && into > 0 && from != into {
			wantTurning(t, records, from, into)
		}
	}
}

// wildField returns any field.
func wildField(r *rand.Rand) api.Field {
	f := api.Field{Tag: pick(r, append(kindless, kinded...)...), Ind: pick(r, "", "  ", "\xff"), Auth: pick(r, -1<<63, -1, 0, 0, 1, 2, 3, 10000, 1<<63-1)}
	for range r.Intn(20) {
		f.Subs = append(f.Subs, api.Sub{Code: byte(r.Intn(256)), Value: pick(r, "", "a", "\xff", "\n", "--", strings.Repeat("x", 300))})
		f.Subs = append(f.Subs, api.Sub{Code: pick(r, []byte("adx")...), Value: pick(r, "", "a", "--", ", ", "1900-")})
	}
	return f
}

// wildFile returns any file.
func wildFile(r *rand.Rand) []api.Authority {
	var l []api.Authority
	for range r.Intn(9) {
		a := au(pick(r, -1<<63, -1, 0, 1, 2, 3, 10000, 1<<63-1), pick(r, -1, 0, 1, 2, 3, 4, 5), pick(r, "", "a", "\xff", "--", "a, 1900-", "1900-", strings.Repeat("x", 300)))
		a.See, a.Above = slices.Repeat([]string{"", "a", "b--c"}, r.Intn(4)), slices.Repeat([]int{a.ID, 1}, r.Intn(4))
		l = append(l, a)
	}
	return l
}

// Files and records that are not valid: no function panics, all end, and none changes what it has been given; what is defined for all arguments is as the description says.
func TestInvalid(t *testing.T) {
	r := rand.New(rand.NewSource(4))
	for range 5000 {
		l := wildFile(r)
		given := api.Record{ID: r.Intn(20000) - 5000, Version: r.Intn(9) - 4, Kind: r.Intn(9) - 4, Lang: pick(r, "", "\xff", "long")}
		for range r.Intn(5) {
			given.Fields = append(given.Fields, wildField(r))
		}
		pure(t, input{Auths: l, Record: given}, func(in input) api.Record { return Link(in.Auths, in.Record) })
		pure(t, input{Auths: l, Record: given}, func(in input) api.Record { return Follow(in.Auths, in.Record) })
		wantLoose(t, given, looseOf(given)...)
		for _, f := range given.Fields {
			wantHeading(t, f, headingOf(f))
			s := pick(r, "a", "--", "a, 1900-", "\xff")
			wantPut(t, f, s, putOf(f, s))
		}
		records := []api.Record{given, {}, given}
		id, into := pick(r, -1<<63, -1, 0, 1, 2, 10000, 1<<63-1), pick(r, -1<<63, -1, 0, 1, 3, 1<<63-1)
		wantUses(t, records, id, usesOf(records, id)...)
		wantTurn(t, records, id, into, turnOf(records, id, into))
	}
}

// More fields, records and authorities than there can be.
func TestLong(t *testing.T) {
	const n = 1 << 17
	fields := slices.Repeat([]api.Field{to(7, fd("650", "aHounds")), fd("245", "aDogs"), fd("110", "bB")}, n)
	loose := []int{}
	for i := range n {
		loose = append(loose, 3*i+2)
	}
	long := rec(1, fields...)
	within(t, "Loose", func() {
		if !slices.Equal(Loose(long), loose) {
			t.Errorf("Loose of many fields is wrong")
		}
	})
	within(t, "Follow", func() { Follow(various(), long) })
	within(t, "Link", func() { Link(various(), rec(1, fields[:3000]...)) })
	var records []api.Record
	for i := range n {
		records = append(records, rec((i*7919)%n, fields[i%3]))
	}
	within(t, "Uses and Turn", func() {
		if len(Uses(records, 7)) != (n+2)/3 || len(Uses(Turn(records, 7, 8), 8)) != (n+2)/3 {
			t.Errorf("Uses of many records is wrong")
		}
	})
	var file []api.Authority
	for i := range n {
		file = append(file, au(i, 3, fmt.Sprint("a", i), "b"))
	}
	within(t, "a long file", func() {
		Link(file, rec(1, fields[:3]...))
		Follow(file, rec(1, fields[:3]...))
	})
}
