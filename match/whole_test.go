package match

import (
	"fmt"
	"math/rand"
	"slices"
	"strings"
	"testing"

	"library/api"
)

// values are what random fields consist of: titles, names, years and book numbers that are partly the same in another form.
var values = []string{
	"Dogs", "dogs!", "DOGS & CATS", "dogs cats", "Dogma", "dog", "\u00c6gir", "aegir", "\u03a9mega", "!", "Lee, Bo", "Lee Bo.", "Lee",
	"1998", "[1998]", "c1998, 1999", "1999", "12345", "c1999-", "dogs 1998",
	"0306406152", "978-0-306-40615-7", "080442957X", "9780804429573", "0306406153", "0378-5955",
}

// randomRule returns a valid rule.
func randomRule(r *rand.Rand) api.MatchRule {
	if r.Intn(4) == 0 {
		return Standard()
	}
	m := rule(pick(r, 1, 20, 30, 50, 70, 100, r.Intn(200)+1))
	for range r.Intn(8) + 1 {
		m.Keys = append(m.Keys, key(pick(r, "020", "245", "245", "264"), pick(r, byte('a'), 'a', 'a', 'c'), r.Intn(5), pick(r, 1, 20, 30, 50, 50, 100)))
	}
	return m
}

// randomRecord returns a valid record.
func randomRecord(r *rand.Rand, id int) api.Record {
	given := api.Record{ID: id, Version: r.Intn(3) + 1, Kind: r.Intn(4) + 1, Lang: pick(r, "eng", "deu")}
	for range r.Intn(7) {
		f := api.Field{Tag: pick(r, "020", "245", "245", "264", "246"), Ind: pick(r, "  ", "1 "), Auth: r.Intn(3)}
		for range r.Intn(3) + 1 {
			f.Subs = append(f.Subs, api.Sub{Code: pick(r, byte('a'), 'a', 'a', 'b', 'c'), Value: pick(r, values...)})
		}
		given.Fields = append(given.Fields, f)
	}
	return given
}

// randomList returns a list of valid records with different IDs, some with the fields of others.
func randomList(r *rand.Rand) []api.Record {
	var l []api.Record
	ids := r.Perm(20)
	for i := range r.Intn(9) {
		given := randomRecord(r, ids[i])
		if i > 0 && r.Intn(3) == 0 {
			given.Fields = append(given.Fields, pick(r, l...).Fields...)
		}
		l = append(l, given)
	}
	return l
}

// wantBothWays checks what P15.7 says of a rule and a list.
func wantBothWays(t *testing.T, m api.MatchRule, l []api.Record) {
	t.Helper()
	pairs := Pairs(m, l)
	for _, a := range l {
		for _, b := range l {
			if s, again := Score(m, a, b), Score(m, b, a); s != again {
				t.Errorf("Score is %d and %d for %s, %s and %s", s, again, short(m), short(a), short(b))
			}
			pair := slices.Contains(pairs, [2]int{min(a.ID, b.ID), max(a.ID, b.ID)})
			if found := slices.Contains(Find(m, l, a), b.ID); found != pair {
				t.Errorf("Find of %d in %s with %s finds %d: %t, but Pairs is %v", a.ID, short(l), short(m), b.ID, found, pairs)
			}
		}
	}
	if !slices.IsSortedFunc(pairs, func(p, q [2]int) int { return slices.Compare(p[:], q[:]) }) || len(slices.Compact(slices.Clone(pairs))) != len(pairs) {
		t.Errorf("Pairs of %s and %s is %v", short(m), short(l), pairs)
	}
}

// P15.3 to P15.7: random rules and lists, against the description.
func TestRandom(t *testing.T) {
	r := rand.New(rand.NewSource(1))
	counts := map[string]int{}
	for range 1500 {
		m, l := randomRule(r), randomList(r)
		wantValid(t, m, l...)
		given := randomRecord(r, r.Intn(40)-10)
		wantPairs(t, m, l, pairsOf(m, l)...)
		wantFind(t, m, l, given, findOf(m, l, given)...)
		for _, a := range l {
			wantFind(t, m, l, a, findOf(m, l, a)...)
			wantScore(t, m, a, given, scoreOf(m, a, given))
			counts["records"]++
			if len(Find(m, l, a)) > 0 {
				counts["found"]++
			}
			if len(Find(m, l, a)) > 1 {
				counts["found together"]++
			}
			if len(Find(m, l, a)) < len(l)-1 {
				counts["others not found"]++
			}
		}
		for _, k := range m.Keys {
			wantKeys(t, k, given, keysOf(k, given)...)
			counts["keys"]++
			if len(Keys(k, given)) > 0 {
				counts["keys with values"]++
			}
		}
		wantBothWays(t, m, l)
	}
	for _, c := range [][2]string{{"found", "records"}, {"found together", "records"}, {"others not found", "records"}, {"keys with values", "keys"}} {
		if counts[c[0]] < counts[c[1]]/10 {
			t.Errorf("too few are %s: %v", c[0], counts)
		}
	}
}

// P15.7: the standard rule over all pairs of many records.
func TestBothWays(t *testing.T) {
	r := rand.New(rand.NewSource(2))
	for range 5 {
		var l []api.Record
		for _, id := range r.Perm(64) {
			l = append(l, randomRecord(r, id))
		}
		wantValid(t, Standard(), l...)
		wantBothWays(t, Standard(), l)
		wantPairs(t, Standard(), l, pairsOf(Standard(), l)...)
	}
}

// wildKey returns any match key.
func wildKey(r *rand.Rand) api.MatchKey {
	norm := pick(r, -1<<63, -1, 0, 1, 2, 3, 4, 5, 1<<63-1)
	return key(pick(r, "", "24", "245", "2450", "\xff", "100"), byte(pick(r, 'a', 'c', r.Intn(256))), norm, pick(r, -1<<63, -1, 0, 1, 50, 101, 1<<63-1))
}

// wildRule returns any rule.
func wildRule(r *rand.Rand) api.MatchRule {
	m := rule(pick(r, -1<<63, -1, 0, 1, 100, 801, 1<<63-1))
	for range pick(r, 0, 1, 3, 8, 9, 20) {
		m.Keys = append(m.Keys, wildKey(r))
	}
	return m
}

// wildRecord returns any record.
func wildRecord(r *rand.Rand) api.Record {
	given := api.Record{ID: pick(r, -1<<63, -1, 0, 1, 1, 2, 10000, 1<<63-1), Version: r.Intn(9) - 4, Kind: r.Intn(9) - 4, Lang: pick(r, "", "\xff", "long")}
	for range r.Intn(6) {
		f := api.Field{Tag: pick(r, "", "24", "245", "2450", "\xff", "100"), Ind: pick(r, "", "  ", "\xff"), Auth: r.Intn(9) - 4}
		for range r.Intn(6) {
			value := pick(r, "", "a", "\xff", "\xff\xfe\xfd", "\xc3", "a\xffb\xe2\x82", "\n", "1998\xff", "12\x00345", "\U0001f600", strings.Repeat("x ", 300))
			f.Subs = append(f.Subs, api.Sub{Code: byte(pick(r, 'a', 'c', r.Intn(256))), Value: value})
		}
		given.Fields = append(given.Fields, f)
	}
	return given
}

// Rules and records that are not valid, and lists with an ID twice: no function panics, all end, and none changes what it has been given.
func TestInvalid(t *testing.T) {
	r := rand.New(rand.NewSource(3))
	for range 3000 {
		in := input{Rule: wildRule(r), Key: wildKey(r), A: wildRecord(r), B: wildRecord(r)}
		for range r.Intn(6) {
			in.Records = append(in.Records, wildRecord(r))
		}
		if r.Intn(3) == 0 {
			in.Rule = randomRule(r)
		}
		wantRight(t, in.Rule, rightOf(in.Rule))
		pure(t, in, func(in input) []string { return Keys(in.Key, in.A) })
		pure(t, in, func(in input) int { return Score(in.Rule, in.A, in.B) })
		pure(t, in, func(in input) []int { return Find(in.Rule, in.Records, in.A) })
		pure(t, in, func(in input) [][2]int { return Pairs(in.Rule, in.Records) })
	}
	var nothing api.Record
	if Right(api.MatchRule{}) != api.ErrMissing || len(Keys(api.MatchKey{}, nothing)) > 0 || Score(api.MatchRule{}, nothing, nothing) != 0 {
		t.Errorf("nothing gives something")
	}
}

// Long lists, records and values.
func TestLong(t *testing.T) {
	const n = 10000
	var l []api.Record
	for i := range n {
		id := i * 7919 % n
		l = append(l, book(id, fmt.Sprint("Title ", id/2), fmt.Sprint("Author ", id%100), "1998"))
	}
	wantValid(t, Standard(), l...)
	within(t, "Find among many records", func() {
		if found := Find(Standard(), l, book(-1, "Title 0", "Author 1", "1998")); !slices.Equal(found, []int{1}) {
			t.Errorf("Find is %v", found)
		}
		if found := Find(byTitle(20), l, l[0]); len(found) != n-1 || !slices.Equal(found[:3], []int{1, 100, 200}) {
			t.Errorf("Find is %s", short(found))
		}
	})
	within(t, "Pairs of many records", func() {
		if pairs := Pairs(byTitle(70), l[:3000]); !slices.Equal(pairs, pairsOfTitles(l[:3000])) {
			t.Errorf("Pairs of many records is %s", short(pairs))
		}
	})
	within(t, "long records", func() {
		long := rec(1)
		for i := range 1 << 17 {
			long.Fields = append(long.Fields, fd("245", fmt.Sprint("aTitle ", i*7919%(1<<17)), "a1998"))
		}
		if len(Keys(key("245", 'a', 1, 1), long)) != 1<<17+1 || len(Keys(key("245", 'a', 3, 1), long)) != 2 || Score(byTitle(1), long, long) != 50 {
			t.Errorf("Keys or Score of a long record is wrong")
		}
	})
	within(t, "long values", func() {
		r := rec(1, fd("245", "a"+strings.Repeat("12345 ", 1<<20)+"1998", "b"+strings.Repeat("-", 1<<22)+"0306406152"))
		wantKeys(t, key("245", 'a', 4, 1), r, "1998")
		wantKeys(t, key("245", 'b', 2, 1), r, "9780306406157")
		wantKeys(t, key("245", 'a', 3, 1), r, "1234")
	})
}

// pairsOfTitles returns the pairs of records with the same title among those of TestLong: the IDs 2n and 2n + 1.
func pairsOfTitles(l []api.Record) [][2]int {
	has := map[int]bool{}
	for _, r := range l {
		has[r.ID] = true
	}
	var list [][2]int
	for id := 0; id < 10000; id += 2 {
		if has[id] && has[id+1] {
			list = append(list, [2]int{id, id + 1})
		}
	}
	return list
}
