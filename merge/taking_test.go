package merge

import (
	"fmt"
	"slices"
	"testing"

	"library/api"
	"library/field"
	"library/record"
)

// P16.3: records with no, one and several fields.
func TestMergeFields(t *testing.T) {
	a, b, c, d := fd("245", "aDogs"), fd("650", "aDogs"), fd("650", "aPets"), fd("700", "aLee")
	wantTaken(t, rec(1), rec(2), nil)
	wantTaken(t, rec(1), rec(2, a), nil, 0)
	wantTaken(t, rec(1, a), rec(2), nil)
	wantTaken(t, rec(1, a), rec(2, a), nil)
	wantTaken(t, rec(1, a), rec(2, b), nil, 0)
	wantTaken(t, rec(1, a, b, c), rec(2), nil)
	wantTaken(t, rec(1), rec(2, a, b, c), nil, 0, 1, 2)
	wantTaken(t, rec(1, d), rec(2, c, b, a), nil, 0, 1, 2)
	wantTaken(t, rec(1, b), rec(2, a, b, c, d), nil, 0, 2, 3)
	wantTaken(t, rec(1, a, b, c, d), rec(2, d, c, b, a), nil)
	wantTaken(t, rec(1, a, a, b), rec(2, a, a, b, b, d), nil, 4)
	for _, l := range [][]api.Keep{nil, {}, Standard()} {
		wantTaken(t, rec(1), rec(2), l)
		wantTaken(t, rec(9999), rec(1), l)
		wantTaken(t, rec(1), rec(9999), l)
	}
}

// P16.3: ID, Version, Kind and Lang are those of into; the parting keeps From as it was.
func TestMergeParts(t *testing.T) {
	for version := 1; version <= 3; version++ {
		for kind := 1; kind <= 4; kind++ {
			for other := 1; other <= 4; other++ {
				for _, ids := range [][2]int{{1, 2}, {2, 1}, {1, 9999}, {9999, 1}, {4711, 815}} {
					into := api.Record{ID: ids[0], Version: version, Kind: kind, Lang: "eng", Fields: []api.Field{fd("245", "aDogs")}}
					from := api.Record{ID: ids[1], Version: version, Kind: other, Lang: "deu", Fields: []api.Field{fd("245", "aCats"), fd("650", "aDogs"), fd("650", "aCats")}}
					wantTaken(t, into, from, Standard(), 1, 2)
					wantTaken(t, into, from, nil, 0, 1, 2)
					wantTaken(t, into, from, []api.Keep{keep("650", api.KeepNone), keep("245", api.KeepNone)})
					r, p, _ := Merge(into, from, Standard())
					if r.ID != ids[0] || r.Version != version || r.Kind != kind || r.Lang != "eng" || p.Into != ids[0] || !record.Same(p.From, from) {
						t.Errorf("Merge of %s and %s is %s and %s", short(into), short(from), short(r), short(p))
					}
				}
			}
		}
	}
}

// variants returns fields that differ from the first one in one thing alone.
func variants() []api.Field {
	f := api.Field{Tag: "650", Ind: "10", Subs: []api.Sub{{Code: 'a', Value: "Dogs"}, {Code: 'x', Value: "History"}}, Auth: 3}
	list := []api.Field{f}
	for _, change := range []func(*api.Field){
		func(f *api.Field) { f.Tag = "651" },
		func(f *api.Field) { f.Tag = "065" },
		func(f *api.Field) { f.Ind = " 0" },
		func(f *api.Field) { f.Ind = "1 " },
		func(f *api.Field) { f.Ind = "01" },
		func(f *api.Field) { f.Subs[0].Code = 'b' },
		func(f *api.Field) { f.Subs[1].Code = 'a' },
		func(f *api.Field) { f.Subs[0].Value = "dogs" },
		func(f *api.Field) { f.Subs[0].Value = "Dogs " },
		func(f *api.Field) { f.Subs[1].Value = "Histor" },
		func(f *api.Field) { f.Subs[0], f.Subs[1] = f.Subs[1], f.Subs[0] },
		func(f *api.Field) { f.Subs[0].Code, f.Subs[1].Code = 'x', 'a' },
		func(f *api.Field) { f.Subs = f.Subs[:1] },
		func(f *api.Field) { f.Subs = f.Subs[1:] },
		func(f *api.Field) { f.Subs = append(f.Subs, f.Subs[1]) },
		func(f *api.Field) { f.Subs = append(f.Subs, api.Sub{Code: 'y', Value: "x"}) },
		func(f *api.Field) { f.Subs = []api.Sub{{Code: 'a', Value: "Dogs$xHistory"}} },
		func(f *api.Field) { f.Auth = 0 },
		func(f *api.Field) { f.Auth = 4 },
		func(f *api.Field) { f.Auth = 9999 },
	} {
		list = append(list, fieldWith(f, change))
	}
	return list
}

// P16.3: fields that differ in one thing alone are not equal; field.Same is decisive.
func TestMergeSame(t *testing.T) {
	list := variants()
	wantValid(t, rec(1, list...))
	for i, a := range list {
		for j, b := range list {
			if field.Same(a, b) != (i == j) {
				t.Fatalf("field.Same of %s and %s", short(a), short(b))
			}
			if i == j {
				wantTaken(t, rec(1, a), rec(2, b), nil)
				wantTaken(t, rec(1), rec(2, a, b), nil, 0)
				wantTaken(t, rec(1, fd("245", "ax"), a), rec(2, b, fd("246", "ay"), b), nil, 1)
			} else {
				wantTaken(t, rec(1, a), rec(2, b), nil, 0)
				wantTaken(t, rec(1, a, a), rec(2, a, b, b, a), nil, 1)
				wantTaken(t, rec(1), rec(2, a, b), nil, 0, 1)
				wantTaken(t, rec(1), rec(2, a, b, a, b), nil, 0, 1)
			}
		}
		others := slices.Delete(slices.Clone(list), i, i+1)
		wantTaken(t, rec(1, others...), rec(2, list...), nil, i)
		wantTaken(t, rec(1, list...), rec(2, others...), nil)
		wantTaken(t, rec(1, others...), rec(2, slices.Repeat([]api.Field{a}, 5)...), nil, 0)
	}
}

// P16.3: each kind of keeping, for tags that into has and has not.
func TestMergeKinds(t *testing.T) {
	a, b, c := fd("650", "aDogs"), fd("650", "aPets"), fd("650", "aCats")
	other := fd("651", "aDogs")
	for _, c := range []struct {
		how        int
		into, from []api.Field
		taken      []int
	}{
		{api.KeepNone, nil, []api.Field{a, b}, nil},
		{api.KeepNone, []api.Field{a}, []api.Field{a, b, c}, nil},
		{api.KeepNone, []api.Field{c}, []api.Field{a, other, b}, []int{1}},
		{api.KeepNew, nil, []api.Field{a, b}, []int{0, 1}},
		{api.KeepNew, nil, []api.Field{a, a, b, a, b}, []int{0, 2}},
		{api.KeepNew, []api.Field{a}, []api.Field{a, b, c}, []int{1, 2}},
		{api.KeepNew, []api.Field{other}, []api.Field{a, other, b}, []int{0, 2}},
		{api.KeepMissing, nil, []api.Field{a, b}, []int{0, 1}},
		{api.KeepMissing, nil, []api.Field{a, a, b, a, b}, []int{0, 1, 2, 3, 4}},
		{api.KeepMissing, []api.Field{a}, []api.Field{a, b, c}, nil},
		{api.KeepMissing, []api.Field{c}, []api.Field{a, b}, nil},
		{api.KeepMissing, []api.Field{other}, []api.Field{a, b, a}, []int{0, 1, 2}},
		{api.KeepMissing, []api.Field{other}, []api.Field{a, other, a}, []int{0, 2}},
		{api.KeepMissing, []api.Field{other, b, other}, []api.Field{a, other, c}, nil},
	} {
		wantTaken(t, rec(1, c.into...), rec(2, c.from...), []api.Keep{keep("650", c.how)}, c.taken...)
	}
	// The tag as a whole counts, not how it begins.
	wantTaken(t, rec(1, fd("651", "ax"), fd("065", "ax"), fd("605", "ax")), rec(2, a), []api.Keep{keep("650", api.KeepMissing)}, 0)
	wantTaken(t, rec(1), rec(2, a, other), []api.Keep{keep("65", api.KeepNone), keep("6", api.KeepNone), keep("", api.KeepNone), keep("6500", api.KeepNone)}, 0, 1)
	// What is kept in any other way is not taken.
	for _, how := range []int{-1 << 63, -1, 3, 4, 257, 1<<32 + 1, 1<<63 - 1} {
		wantTaken(t, rec(1), rec(2, a, other), []api.Keep{keep("650", how)}, 1)
	}
}

// P16.3: several rules for one tag, of which the first one counts.
func TestMergeRules(t *testing.T) {
	into := rec(1, fd("245", "aDogs"), fd("650", "aDogs"))
	from := rec(2, fd("245", "aCats"), fd("650", "aDogs"), fd("650", "aCats"), fd("700", "aLee"), fd("700", "aLee"))
	taken := map[string][3][]int{"245": {nil, {0}, nil}, "650": {nil, {2}, nil}, "700": {nil, {3}, {3, 4}}}
	for first := range 3 {
		for second := range 3 {
			for third := range 3 {
				l := []api.Keep{keep("245", first), keep("650", second), keep("700", third), keep("245", third), keep("650", first), keep("700", second), keep("999", 0)}
				want := slices.Concat(taken["245"][first], taken["650"][second], taken["700"][third])
				wantTaken(t, into, from, l, want...)
				slices.Reverse(l)
				want = slices.Concat(taken["245"][third], taken["650"][first], taken["700"][second])
				wantTaken(t, into, from, l, want...)
			}
		}
	}
	wantTaken(t, into, from, nil, 0, 2, 3)
	wantTaken(t, into, from, Standard(), 2, 3)
}

// P16.3: the standard rules, for every tag, whether into has it or not.
func TestMergeStandard(t *testing.T) {
	tags, hows := standardOf()
	for n := 10; n < 1000; n++ {
		tag := fmt.Sprintf("%03d", n)
		from := rec(2, fd(tag, "aDogs"), fd(tag, "aCats"), fd(tag, "aCats"))
		how := api.KeepNew
		if i := slices.Index(tags, tag); i >= 0 {
			how = hows[i]
		}
		missing := [][]int{nil, {0, 1}, {0, 1, 2}}[how]
		present := [][]int{nil, {1}, nil}[how]
		wantTaken(t, rec(1), from, Standard(), missing...)
		wantTaken(t, rec(1, fd(tag, "aDogs")), from, Standard(), present...)
	}
}

// P16.3: all sequences of fields, with each kind of keeping for each of two tags.
func TestMergeSequences(t *testing.T) {
	fields := []api.Field{fd("245", "aDogs"), fd("650", "aDogs"), fd("650", "aCats")}
	var rules [][]api.Keep
	for first := range 4 {
		for second := range 4 {
			var l []api.Keep
			if first < 3 {
				l = append(l, keep("245", first))
			}
			if second < 3 {
				l = append(l, keep("650", second))
			}
			rules = append(rules, l)
		}
	}
	counts := map[int]int{}
	eachSequence(fields, 2, func(into []api.Field) {
		eachSequence(fields, 3, func(from []api.Field) {
			for _, l := range rules {
				got := wantSaid(t, rec(1, into...), rec(2, from...), l)
				counts[len(got.Parting.Taken)]++
				wantConsequences(t, rec(1, into...), rec(2, from...), l, got)
			}
		})
	})
	for n := range 4 {
		if counts[n] < 100 {
			t.Errorf("the numbers of taken fields are %v", counts)
		}
	}
}

// P16.3: results around MaxFields.
func TestMergeFull(t *testing.T) {
	if api.MaxFields != 64 {
		t.Errorf("MaxFields is %d", api.MaxFields)
	}
	for n := range 65 {
		into := rec(1, times("500", n)...)
		for _, m := range []int{0, 1, 2, 63 - n, 64 - n, 65 - n, 66 - n, 63, 64} {
			if m < 0 || m > 64 {
				continue
			}
			from := rec(2, times("650", m)...)
			if n+m > 64 {
				wantNoMerge(t, into, from, nil, api.ErrFull)
				wantNoMerge(t, into, from, Standard(), api.ErrFull)
				wantNoMerge(t, into, from, []api.Keep{keep("650", api.KeepMissing)}, api.ErrFull)
			} else {
				wantTaken(t, into, from, nil, upTo(m)...)
				wantTaken(t, into, from, Standard(), upTo(m)...)
				wantTaken(t, into, from, []api.Keep{keep("650", api.KeepMissing)}, upTo(m)...)
			}
			wantTaken(t, into, from, []api.Keep{keep("650", api.KeepNone)})
		}
	}
	// Only fields that are taken count.
	full := rec(1, times("500", 64)...)
	wantTaken(t, full, rec(2, times("500", 64)...), nil)
	wantTaken(t, full, rec(2, append(times("500", 63), fd("856", "aDogs"))...), Standard())
	wantNoMerge(t, full, rec(2, append(times("500", 63), fd("857", "aDogs"))...), Standard(), api.ErrFull)
	wantNoMerge(t, full, rec(2, fd("100", "aLee")), Standard(), api.ErrFull)
	most := rec(1, times("500", 63)...)
	wantTaken(t, most, rec(2, slices.Repeat([]api.Field{fd("650", "aDogs")}, 64)...), nil, 0)
	wantNoMerge(t, most, rec(2, fd("650", "aDogs"), fd("650", "aDogs")), []api.Keep{keep("650", api.KeepMissing)}, api.ErrFull)
	wantTaken(t, most, rec(2, fd("650", "aDogs"), fd("650", "aDogs")), []api.Keep{keep("650", api.KeepNew)}, 0)
}

// upTo returns the numbers below n.
func upTo(n int) []int {
	var l []int
	for i := range n {
		l = append(l, i)
	}
	return l
}

// P16.3: each fault of a record, in into, in from and in both; these errors come before all later ones.
func TestMergeWrongRecords(t *testing.T) {
	into, from := rec(1, fd("245", "aDogs")), rec(2, fd("245", "aCats"))
	wantTaken(t, into, from, nil, 0)
	for _, f := range otherFaults() {
		wantNoMerge(t, with(into, f.apply), from, nil, f.err)
		wantNoMerge(t, into, with(from, f.apply), nil, f.err)
		for _, g := range otherFaults() {
			wantNoMerge(t, with(into, f.apply), with(from, g.apply), Standard(), f.err)
		}
		for _, later := range []api.Record{
			with(from, func(r *api.Record) { r.ID = 0 }),
			with(from, func(r *api.Record) { r.ID = 1 }),
			with(from, func(r *api.Record) { r.Version = 1 }),
			with(from, func(r *api.Record) { r.Fields = times("650", 64) }),
		} {
			wantNoMerge(t, with(into, f.apply), later, nil, f.err)
			wantNoMerge(t, later, with(into, f.apply), nil, f.err)
		}
	}
}

// P16.3: every choice of the IDs.
func TestMergeIDs(t *testing.T) {
	for _, a := range numbers {
		for _, b := range numbers {
			into, from := rec(a, fd("245", "aDogs")), rec(b, fd("245", "aCats"))
			switch {
			case !inLimits(a), !inLimits(b):
				wantNoMerge(t, into, from, nil, api.ErrRange)
			case a == b:
				wantNoMerge(t, into, from, nil, api.ErrArg)
			default:
				wantTaken(t, into, from, nil, 0)
			}
		}
	}
}

// P16.3: every choice of the versions.
func TestMergeVersions(t *testing.T) {
	for a := -1; a < 6; a++ {
		for b := -1; b < 6; b++ {
			into, from := rec(1, fd("245", "aDogs")), rec(2, fd("245", "aCats"))
			into.Version, from.Version = a, b
			if a == b && a >= 1 && a <= 3 {
				wantTaken(t, into, from, nil, 0)
			} else {
				wantNoMerge(t, into, from, nil, api.ErrVersion)
			}
		}
	}
}

// P16.3: every choice of faults; the first one counts.
func TestMergeFaults(t *testing.T) {
	type wrong struct {
		err   api.Errno
		apply func(into, from *api.Record)
	}
	list := []wrong{}
	for _, i := range []int{1, 2, 3, 5, 7} {
		f := faults()[i]
		list = append(list, wrong{f.err, func(into, _ *api.Record) { f.apply(into) }})
	}
	for _, i := range []int{1, 2, 3, 5, 7} {
		f := faults()[i]
		list = append(list, wrong{f.err, func(_, from *api.Record) { f.apply(from) }})
	}
	list = append(list,
		wrong{api.ErrRange, func(into, _ *api.Record) { into.ID = 0 }},
		wrong{api.ErrRange, func(_, from *api.Record) { from.ID = 0 }},
		wrong{api.ErrArg, func(into, from *api.Record) { into.ID = from.ID }},
		wrong{api.ErrVersion, func(_, from *api.Record) { from.Version = 2 }},
		wrong{api.ErrFull, func(into, _ *api.Record) { into.Fields = append(into.Fields, times("500", 62)...) }},
	)
	eachChoice(len(list), func(l []int) {
		into, from := rec(1, fd("245", "aDogs"), fd("650", "aDogs")), rec(2, fd("245", "aCats"), fd("650", "aCats"))
		want := api.OK
		// In this order no fault undoes one with an earlier error.
		for _, i := range slices.Backward(l) {
			list[i].apply(&into, &from)
			want = list[i].err
		}
		r, p, err := Merge(into, from, nil)
		said := mergeOf(into, from, nil)
		if err != want || said.Err != want || want != api.OK && !equal(merged{r, p, err}, merged{Err: err}) {
			t.Errorf("Merge is %s, the description says %s, want error %d: %s, %s", short(merged{r, p, err}), short(said), int(want), short(into), short(from))
		}
	})
}
