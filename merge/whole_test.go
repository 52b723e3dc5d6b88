package merge

import (
	"math/rand"
	"slices"
	"strings"
	"testing"

	"library/api"
	"library/record"
)

// wantConsequences checks what P16.6, P16.7 and P16.8 say of a merge and of what it returned.
func wantConsequences(t *testing.T, into, from api.Record, l []api.Keep, m merged) {
	t.Helper()
	if m.Err != api.OK {
		t.Errorf("error %d of Merge of %s and %s", int(m.Err), short(into), short(from))
		return
	}
	wantRight(t, m.Parting, api.OK)
	if err := record.Right(m.Record); err != api.OK {
		t.Errorf("error %d of the merged record %s", int(err), short(m.Record))
	}
	wantSplit(t, m.Record, m.Parting, true, into.Fields...)
	if n := len(into.Fields); !equal(m.Record.Fields[:n], into.Fields) {
		t.Errorf("the fields of %s are not the first ones of %s", short(into), short(m.Record))
	}
	here := map[string]bool{}
	for _, f := range m.Record.Fields {
		here[shown(f)] = true
	}
	for _, f := range from.Fields {
		if How(l, f.Tag) == api.KeepNew && !here[shown(f)] {
			t.Errorf("%s is not in %s", short(f), short(m.Record))
		}
	}
	wantTaken(t, m.Record, from, l)
}

// wantAppended checks what P16.6 says of fields that were appended behind a merged record and are not equal to a taken one.
func wantAppended(t *testing.T, into api.Record, m merged, more []api.Field) {
	t.Helper()
	taken := map[string]bool{}
	for _, i := range m.Parting.Taken {
		taken[shown(m.Parting.From.Fields[i])] = true
	}
	more = slices.DeleteFunc(slices.Clone(more), func(f api.Field) bool { return taken[shown(f)] })
	longer := m.Record
	longer.Fields = slices.Concat(m.Record.Fields, more)
	wantSplit(t, longer, m.Parting, true, slices.Concat(into.Fields, more)...)
}

// randomField returns a valid field, often the same one.
func randomField(r *rand.Rand) api.Field {
	f := api.Field{Tag: pick(r, "100", "245", "650", "650", "651", "700", "856"), Ind: pick(r, "  ", "  ", "1 "), Auth: pick(r, 0, 0, 0, 7)}
	for range r.Intn(2) + 1 {
		f.Subs = append(f.Subs, api.Sub{Code: pick(r, byte('a'), 'a', 'x'), Value: pick(r, "Dogs", "Cats", "Dogs", "\u00c6gir")})
	}
	return f
}

// randomFields returns up to n valid fields.
func randomFields(r *rand.Rand, n int) []api.Field {
	var l []api.Field
	for range r.Intn(n + 1) {
		l = append(l, randomField(r))
	}
	return l
}

// randomRules returns rules for merging.
func randomRules(r *rand.Rand) []api.Keep {
	if r.Intn(4) == 0 {
		return Standard()
	}
	var l []api.Keep
	for range r.Intn(7) {
		l = append(l, keep(pick(r, "100", "245", "650", "651", "700", "856", "", "65"), r.Intn(3)))
	}
	return l
}

// randomRecords returns two valid records that can be merged.
func randomRecords(r *rand.Rand) (api.Record, api.Record) {
	ids := r.Perm(9999)[:2]
	n := pick(r, 1, 4, 10, 30)
	a, b := rec(ids[0]+1, randomFields(r, n)...), rec(ids[1]+1, randomFields(r, n)...)
	for range r.Intn(4) {
		if len(a.Fields) > 0 {
			b.Fields = slices.Insert(b.Fields, r.Intn(len(b.Fields)+1), pick(r, a.Fields...))
		}
	}
	a.Kind, b.Kind, b.Lang = r.Intn(4)+1, r.Intn(4)+1, pick(r, "eng", "deu")
	a.Version = r.Intn(3) + 1
	b.Version = a.Version
	return a, b
}

// shuffled returns a record whose fields were put in another order, removed, appended and changed.
func shuffled(r *rand.Rand, given api.Record, from []api.Field) api.Record {
	given = copyOf(given)
	if r.Intn(2) == 0 {
		r.Shuffle(len(given.Fields), func(i, j int) { given.Fields[i], given.Fields[j] = given.Fields[j], given.Fields[i] })
	}
	for range r.Intn(4) {
		if n := len(given.Fields); n > 0 {
			switch i := r.Intn(n); r.Intn(4) {
			case 0:
				given.Fields = slices.Delete(given.Fields, i, i+1)
			case 1:
				given.Fields[i] = randomField(r)
			case 2:
				given.Fields = slices.Insert(given.Fields, i, randomField(r))
			default:
				given.Fields = append(given.Fields, pick(r, append(from, given.Fields...)...))
			}
		}
	}
	return given
}

// P16.3 to P16.8: random records and rules, against the description, and the consequences.
func TestRandom(t *testing.T) {
	r := rand.New(rand.NewSource(3))
	counts := map[string]int{}
	for range 2000 {
		l := randomRules(r)
		into, from := randomRecords(r)
		wantValid(t, into, from)
		m := wantSaid(t, into, from, l)
		wantConsequences(t, into, from, l, m)
		wantAppended(t, into, m, randomFields(r, 8))
		wantAppended(t, into, m, into.Fields)
		wantAppended(t, into, m, from.Fields)
		_, all := wantPartedSaid(t, shuffled(r, m.Record, from.Fields), m.Parting)
		counts["all"]++
		if len(m.Parting.Taken) > 0 {
			counts["taking"]++
		}
		if len(m.Parting.Taken) < len(from.Fields) {
			counts["not taking all"]++
		}
		if all && len(m.Parting.Taken) > 0 {
			counts["whole"]++
		}
		if !all {
			counts["not whole"]++
		}
	}
	for _, kind := range []string{"taking", "not taking all", "whole", "not whole"} {
		if counts[kind] < counts["all"]/10 {
			t.Errorf("too few are %s: %v", kind, counts)
		}
	}
}

// P16.6: two merges into one record are undone in either order, if the second one does not take what the first one took.
func TestTwoMerges(t *testing.T) {
	r := rand.New(rand.NewSource(4))
	for range 1000 {
		l := randomRules(r)
		into, first := randomRecords(r)
		second := with(first, func(x *api.Record) { x.ID, x.Fields = into.ID%9999+1, randomFields(r, 10) })
		if second.ID == first.ID {
			continue
		}
		one := wantSaid(t, into, first, l)
		two := wantSaid(t, one.Record, second, l)
		wantConsequences(t, one.Record, second, l, two)
		// What a merge takes is not in the record before it, so that nothing that the second one took is equal to what the first one took.
		added := two.Record.Fields[len(one.Record.Fields):]
		wantSplit(t, two.Record, one.Parting, true, slices.Concat(into.Fields, added)...)
		back, _, _ := Split(two.Record, two.Parting)
		wantSplit(t, back, one.Parting, true, into.Fields...)
	}
}

// P16.6: a change of a heading that reaches both the merged record and the parting does not keep them from being split.
func TestHeadingsChange(t *testing.T) {
	rename := func(l []api.Field) []api.Field {
		l = copyOf(l)
		for i := range l {
			if l[i].Auth == 7 {
				l[i].Subs[0].Value = "Hounds"
			}
		}
		return l
	}
	linked := fieldWith(fd("650", "aDogs"), func(f *api.Field) { f.Auth = 7 })
	into, from := rec(1, fd("245", "aDogs")), rec(2, fd("650", "aDogs"), linked, fd("650", "aCats"))
	m := wantSaid(t, into, from, Standard())
	m.Record.Fields = append(rename(m.Record.Fields), fd("500", "aGood"))
	wantSplit(t, m.Record, m.Parting, false, fd("245", "aDogs"), rename([]api.Field{linked})[0], fd("500", "aGood"))
	m.Parting.From.Fields = rename(m.Parting.From.Fields)
	wantSplit(t, m.Record, m.Parting, true, fd("245", "aDogs"), fd("500", "aGood"))
}

// P16.3, P16.4: what is returned shares no memory with what was handed in, nor with itself, whatever room there is behind the lists.
func TestOwnMemory(t *testing.T) {
	r := rand.New(rand.NewSource(5))
	for range 500 {
		l := randomRules(r)
		into, from := randomRecords(r)
		given, givenFrom := roomy(into), roomy(from)
		first, p, _ := Merge(given, givenFrom, l)
		second, q, _ := Merge(given, givenFrom, l)
		a, b, _ := Split(first, p)
		c, d, _ := Split(first, p)
		if !apart(given, givenFrom, first, p, second, q, a, b, c, d) {
			t.Errorf("lists share memory: %s, %s", short(into), short(from))
		}
		first.Fields = append(first.Fields, fd("999", "ax"))
		a.Fields = append(a.Fields, fd("999", "ay"))
		p.Taken = append(p.Taken, 99)
		if !equal(given, into) || !equal(givenFrom, from) || !equal(c, into) || !equal(d, from) || !equal(b, from) || !equal(merged{second, q, api.OK}, mergeOf(into, from, l)) {
			t.Errorf("what is appended shows elsewhere: %s, %s", short(into), short(from))
		}
	}
}

// wildField returns any field.
func wildField(r *rand.Rand) api.Field {
	f := api.Field{Tag: pick(r, "", "24", "245", "2450", "\xff", "100"), Ind: pick(r, "", "  ", "\xff"), Auth: r.Intn(9) - 4}
	for range r.Intn(6) {
		value := pick(r, "", "a", "\xff", "\xc3", "a\xffb\xe2\x82", "\n", "\U0001f600", strings.Repeat("x ", 300))
		f.Subs = append(f.Subs, api.Sub{Code: byte(pick(r, 'a', 'c', r.Intn(256))), Value: value})
	}
	return f
}

// wildRecord returns any record, often one with few faults.
func wildRecord(r *rand.Rand) api.Record {
	given := rec(pick(r, 1, 2), randomFields(r, pick(r, 0, 5, 5, 60))...)
	for range pick(r, 0, 0, 1, 3) {
		switch r.Intn(6) {
		case 0:
			given.ID = pick(r, -1<<63, -1, 0, 3, 10000, 1<<63-1)
		case 1:
			given.Version = pick(r, 1, 2, 0, -1, 4, 1<<63-1)
		case 2:
			given.Kind = pick(r, 2, 4, 0, 5, -1)
		case 3:
			given.Lang = pick(r, "", "\xff", "long")
		case 4:
			given.Fields = append(given.Fields, randomFields(r, 70)...)
		default:
			given.Fields = append(given.Fields, wildField(r), wildField(r))
		}
	}
	return given
}

// wildRules returns any rules.
func wildRules(r *rand.Rand) []api.Keep {
	var l []api.Keep
	for range pick(r, 0, 1, 5, 30) {
		l = append(l, keep(pick(r, "", "650", "245", "\xff", "2450", "24"), pick(r, 0, 1, 2, 3, -1, -1<<63, 1<<63-1)))
	}
	return l
}

// wildParting returns any parting.
func wildParting(r *rand.Rand) api.Parting {
	p := parting(pick(r, -1<<63, -1, 0, 1, 1, 1, 2, 10000, 1<<63-1), wildRecord(r))
	for range pick(r, 0, 0, 1, 2, 70) {
		p.Taken = append(p.Taken, pick(r, 0, 1, 2, 3, len(p.From.Fields)-1, len(p.From.Fields), -1, -1<<63, 1<<63-1))
	}
	if r.Intn(3) == 0 {
		slices.Sort(p.Taken)
		p.Taken = slices.Compact(p.Taken)
	}
	return p
}

// All functions accept any arguments: they do not panic, they end, and they return what the description says.
func TestAnything(t *testing.T) {
	r := rand.New(rand.NewSource(6))
	errors, splits := map[api.Errno]int{}, map[api.Errno]int{}
	for range 4000 {
		a, b, l, p := wildRecord(r), wildRecord(r), wildRules(r), wildParting(r)
		wantRight(t, p, rightOf(p))
		m := wantSaid(t, a, b, l)
		s, _ := wantPartedSaid(t, a, p)
		for _, f := range b.Fields {
			wantHow(t, l, f.Tag, howOf(l, f.Tag))
		}
		errors[m.Err]++
		splits[s.Err]++
	}
	for _, err := range []api.Errno{api.OK, api.ErrRange, api.ErrVersion, api.ErrArg, api.ErrForm, api.ErrLong, api.ErrTag} {
		if errors[err] == 0 || splits[err] == 0 {
			t.Errorf("no error %d: %v, %v", int(err), errors, splits)
		}
	}
	if splits[api.ErrNone] == 0 || splits[api.ErrTwice] == 0 {
		t.Errorf("the errors of Split are %v", splits)
	}
}

// Very long lists and values as arguments.
func TestLong(t *testing.T) {
	within(t, "Merge with very long arguments", func() {
		into, from := rec(1, times("500", 32)...), rec(2, append(times("500", 33), times("650", 31)...)...)
		long := slices.Repeat([]api.Keep{keep("651", api.KeepNone)}, 1<<16)
		wantTaken(t, into, from, append(long, keep("500", api.KeepNone)), upTo(64)[33:]...)
		wantTaken(t, into, from, append(long, keep("650", api.KeepNone)), 32)
		huge := rec(3, times("500", 1<<15)...)
		wantNoMerge(t, huge, from, long, api.ErrLong)
		wantNoMerge(t, into, huge, long, api.ErrLong)
		wantNoMerge(t, into, rec(2, fd("245", "a"+strings.Repeat("x", 1<<24))), long, api.ErrLong)
		wantNoMerge(t, into, rec(2, fd(strings.Repeat("2", 1<<24), "ax")), long, api.ErrTag)
		wantRight(t, parting(1, huge), api.ErrLong)
	})
	within(t, "Merge of full records with full fields", func() {
		value := strings.Repeat("x", api.MaxValue-2)
		var fields [2][]api.Field
		for i := range 64 {
			f := api.Field{Tag: "650", Ind: "  "}
			for range api.MaxSubs {
				f.Subs = append(f.Subs, api.Sub{Code: 'a', Value: value})
			}
			for side := range fields {
				f = copyOf(f)
				f.Subs[api.MaxSubs-1].Value = value + string(rune('0'+i)) + string(rune('0'+side*(i%2)))
				fields[side] = append(fields[side], f)
			}
		}
		into, from := rec(1, fields[0]...), rec(2, fields[1]...)
		wantValid(t, into, from)
		wantNoMerge(t, into, from, nil, api.ErrFull)
		into.Fields = into.Fields[:32]
		wantNoMerge(t, into, from, nil, api.ErrFull)
		from.Fields = from.Fields[:32]
		m := wantSaid(t, into, from, nil)
		if len(m.Parting.Taken) != 16 || len(m.Record.Fields) != 48 {
			t.Errorf("%d fields are taken", len(m.Parting.Taken))
		}
		wantConsequences(t, into, from, nil, m)
	})
}
