package merge

import (
	"fmt"
	"slices"
	"testing"

	"library/api"
)

// dogs returns a parting into the record 1, which has taken these of three fields of the record 2, and the three fields.
func dogs(taken ...int) (api.Parting, api.Field, api.Field, api.Field) {
	a, b, c := fd("245", "aDogs"), fd("650", "aDogs"), fd("650", "aPets", "xHistory")
	return parting(1, rec(2, a, b, c), taken...), a, b, c
}

// P16.4, P16.5: what Merge returned.
func TestSplit(t *testing.T) {
	into, from := rec(1, fd("245", "aDogs"), fd("650", "aCats")), rec(2, fd("245", "aAll dogs"), fd("500", "aGood"), fd("650", "aPets"), fd("650", "aCats"), fd("100", "aLee"))
	for _, l := range [][]api.Keep{nil, Standard(), {keep("500", api.KeepNone)}, {keep("650", api.KeepMissing), keep("245", api.KeepNone)}} {
		r, p, err := Merge(into, from, l)
		if err != api.OK || len(p.Taken) == 0 {
			t.Fatalf("Merge with %s is %s, error %d", short(l), short(p), int(err))
		}
		wantSplit(t, r, p, true, into.Fields...)
	}
}

// P16.4, P16.5: no element in Taken; nothing is removed, whatever the record has.
func TestSplitNothing(t *testing.T) {
	p, a, b, c := dogs()
	for _, l := range [][]api.Field{nil, {a}, {a, b, c}, {c, c, c}, {fd("100", "aLee")}} {
		wantSplit(t, rec(1, l...), p, true, l...)
		p.Taken = []int{}
		wantSplit(t, rec(1, l...), p, true, l...)
	}
	wantSplit(t, rec(1), parting(1, rec(2)), true)
	wantSplit(t, rec(1, a), parting(1, rec(2)), true, a)
}

// P16.4, P16.5: fields were appended, removed, changed and put in another order since.
func TestSplitChanged(t *testing.T) {
	p, a, b, c := dogs(1, 2)
	x, y := fd("100", "aLee"), fd("500", "aGood")
	wantSplit(t, rec(1, x, b, c), p, true, x)
	wantSplit(t, rec(1, x, b, c, y), p, true, x, y)
	wantSplit(t, rec(1, x, b, c, y, a, x), p, true, x, y, a, x)
	wantSplit(t, rec(1, y, b, x, c, a), p, true, y, x, a)
	wantSplit(t, rec(1, c, b), p, true)
	wantSplit(t, rec(1, c, x, b), p, true, x)
	wantSplit(t, rec(1, c, x, a, b, y), p, true, x, a, y)
	// One or both of the fields are gone.
	wantSplit(t, rec(1, x, b), p, false, x)
	wantSplit(t, rec(1, x, c), p, false, x)
	wantSplit(t, rec(1, c), p, false)
	wantSplit(t, rec(1, b), p, false)
	wantSplit(t, rec(1, x), p, false, x)
	wantSplit(t, rec(1, a, x, y), p, false, a, x, y)
	wantSplit(t, rec(1), p, false)
	// A field of From that was not taken stays.
	wantSplit(t, rec(1, a, b, c), p, true, a)
	wantSplit(t, rec(1, a, a, b), p, false, a, a)
}

// P16.4, P16.5: a field that was changed in one thing alone is not found.
func TestSplitVariants(t *testing.T) {
	list := variants()
	for i, f := range list {
		p := parting(1, rec(2, fd("245", "aDogs"), f), 1)
		for j, g := range list {
			if i == j {
				wantSplit(t, rec(1, g), p, true)
				wantSplit(t, rec(1, fd("245", "aDogs"), g, fd("500", "ax")), p, true, fd("245", "aDogs"), fd("500", "ax"))
			} else {
				wantSplit(t, rec(1, g), p, false, g)
				wantSplit(t, rec(1, g, f, g), p, true, g, g)
				wantSplit(t, rec(1, f, g), p, true, g)
			}
		}
		wantSplit(t, rec(1, list...), p, true, slices.Delete(slices.Clone(list), i, i+1)...)
		all := parting(1, rec(2, list...), upTo(len(list))...)
		wantSplit(t, rec(1, list...), all, true)
		wantSplit(t, rec(1, slices.Delete(slices.Clone(list), i, i+1)...), all, false)
	}
}

// P16.4, P16.5: several fields of the record are equal to a taken one; the last one is removed.
func TestSplitLast(t *testing.T) {
	p, a, b, c := dogs(1)
	x, y, z := fd("500", "ax"), fd("500", "ay"), fd("500", "az")
	wantSplit(t, rec(1, b, x, b), p, true, b, x)
	wantSplit(t, rec(1, b, x, b, y), p, true, b, x, y)
	wantSplit(t, rec(1, x, b, y, b, z), p, true, x, b, y, z)
	wantSplit(t, rec(1, b, x, b, y, b, z), p, true, b, x, b, y, z)
	wantSplit(t, rec(1, b, b, b), p, true, b, b)
	wantSplit(t, rec(1, b, x, b, c, b, a), p, true, b, x, b, c, a)
	p.Taken = []int{1, 2}
	wantSplit(t, rec(1, b, c, x, c, y, b), p, true, b, c, x, y)
	wantSplit(t, rec(1, c, b, x, y, c, z, b), p, true, c, b, x, y, z)
	wantSplit(t, rec(1, b, x, b, y), p, false, b, x, y)
	for n := range 64 {
		fields := slices.Repeat([]api.Field{b}, n+1)
		for i := range n + 1 {
			before, behind := fields[:i], times("500", n-i)
			wantSplit(t, rec(1, slices.Concat(before, []api.Field{b}, behind)...), parting(1, p.From, 1), true, slices.Concat(before, behind)...)
		}
	}
}

// P16.4, P16.5: Taken has several equal fields.
func TestSplitEqual(t *testing.T) {
	a, b, x, y := fd("650", "aDogs"), fd("650", "aCats"), fd("500", "ax"), fd("500", "ay")
	from := rec(2, a, b, a, a, b)
	for _, c := range []struct {
		taken, given, left string
		all                bool
	}{
		{"0", "axa", "ax", true}, {"3", "axa", "ax", true}, {"02", "axa", "x", true}, {"03", "axaya", "axy", true}, {"023", "axaya", "xy", true},
		{"023", "axay", "xy", false}, {"023", "xay", "xy", false}, {"023", "xy", "xy", false}, {"023", "axayaxa", "axyx", true},
		{"01234", "abaab", "", true}, {"01234", "babaxaba", "bax", true}, {"01234", "aaab", "", false}, {"01234", "abbb", "b", false}, {"01234", "bxbybaaa", "bxy", true},
		{"14", "babab", "baa", true}, {"14", "bxay", "xay", false}, {"04", "axbxaxbx", "axbxxx", true}, {"13", "", "", false},
	} {
		fields := func(letters string) []api.Field {
			var l []api.Field
			for _, letter := range letters {
				l = append(l, map[rune]api.Field{'a': a, 'b': b, 'x': x, 'y': y}[letter])
			}
			return l
		}
		p := parting(1, from)
		for _, digit := range c.taken {
			p.Taken = append(p.Taken, int(digit-'0'))
		}
		wantSplit(t, rec(1, fields(c.given)...), p, c.all, fields(c.left)...)
	}
}

// P16.4, P16.5: all sequences of fields, with every choice of Taken.
func TestSplitSequences(t *testing.T) {
	fields := []api.Field{fd("245", "aDogs"), fd("650", "aDogs"), fd("650", "aCats")}
	counts := map[bool]int{}
	eachSequence(fields, 3, func(from []api.Field) {
		eachChoice(len(from), func(taken []int) {
			p := parting(1, rec(2, from...), taken...)
			eachSequence(fields, 4, func(l []api.Field) {
				got, all := wantPartedSaid(t, rec(1, l...), p)
				if all != (len(got.Into.Fields)+len(taken) == len(l)) {
					t.Errorf("Whole is %t for %s and %s", all, short(l), short(p))
				}
				counts[all]++
			})
		})
	})
	if counts[true] < 1000 || counts[false] < 1000 {
		t.Errorf("Whole is %v", counts)
	}
}

// P16.4: the other parts of the record stay as they are, and it need not be valid.
func TestSplitParts(t *testing.T) {
	p, a, b, _ := dogs(1)
	for _, version := range []int{-1, 0, 1, 2, 3, 4, 1<<63 - 1} {
		for _, kind := range []int{-1, 0, 1, 4, 5} {
			for _, lang := range []string{"", "eng", "deu", "en", "\xff", "ENG"} {
				r := api.Record{ID: 1, Version: version, Kind: kind, Lang: lang, Fields: []api.Field{a, b}}
				wantSplit(t, r, p, true, a)
				r.Fields = []api.Field{a}
				wantSplit(t, r, p, false, a)
			}
		}
	}
	wrong := []api.Field{{}, fd("", "ax"), fd("009", "ax"), {Tag: "245", Ind: "\xff"}, {Tag: "650", Ind: "1 ", Auth: -1}, fd("500", "\xff\xff"), fd("650", "aDogs", "a"), fd("650", "a")}
	wantSplit(t, rec(1, append(slices.Clone(wrong), b)...), p, true, wrong...)
	wantSplit(t, rec(1, append([]api.Field{b}, wrong...)...), p, true, wrong...)
	wantSplit(t, rec(1, wrong...), p, false, wrong...)
	for _, n := range []int{63, 64, 65, 100, 1000} {
		many := times("500", n)
		wantSplit(t, rec(1, append(slices.Clone(many), b)...), p, true, many...)
		wantSplit(t, rec(1, append([]api.Field{b}, many...)...), p, true, many...)
		wantSplit(t, rec(1, many...), p, false, many...)
	}
}

// P16.4, P16.5: every error of Right for the parting; it comes before ErrNone.
func TestSplitWrongPartings(t *testing.T) {
	good, a, b, c := dogs(1, 2)
	records := []api.Record{rec(1, a, b, c), rec(2, a, b, c), rec(0, a), rec(3), rec(10000, b, c), rec(-1), {}}
	list := []api.Parting{}
	for _, into := range []int{-1, 0, 10000} {
		list = append(list, partingWith(good, func(p *api.Parting) { p.Into = into }))
	}
	for _, f := range otherFaults() {
		list = append(list, partingWith(good, func(p *api.Parting) { f.apply(&p.From) }))
	}
	list = append(list, partingWith(good, func(p *api.Parting) { p.From.ID = 0 }), partingWith(good, func(p *api.Parting) { p.From.ID = 1 }))
	for _, taken := range [][]int{{-1}, {3}, {0, 1, 2, 3}, {1, 1}, {2, 1}, {1, 2, 0}, {1, 1, 3}} {
		list = append(list, partingWith(good, func(p *api.Parting) { p.Taken = taken }))
	}
	for _, p := range append(list, api.Parting{}) {
		err := Right(p)
		if err == api.OK {
			t.Errorf("the parting %s is valid", short(p))
		}
		for _, r := range records {
			wantNoSplit(t, r, p, err)
			wantNoSplit(t, with(r, func(r *api.Record) { r.ID = p.Into }), p, err)
		}
	}
}

// partingWith returns a parting that was changed.
func partingWith(p api.Parting, change func(*api.Parting)) api.Parting {
	p = copyOf(p)
	change(&p)
	return p
}

// P16.4, P16.5: the record is another one than that of the parting.
func TestSplitOther(t *testing.T) {
	p, a, b, _ := dogs(1)
	for _, into := range []int{1, 3, 9998, 9999} {
		p.Into = into
		for _, id := range append([]int{into - 1, into + 1, into + 1<<32, into + 1<<16, -into}, numbers...) {
			if id == into {
				wantSplit(t, rec(id, a, b), p, true, a)
				wantSplit(t, rec(id, a), p, false, a)
			} else {
				wantNoSplit(t, rec(id, a, b), p, api.ErrNone)
				wantNoSplit(t, rec(id, a), p, api.ErrNone)
				wantNoSplit(t, rec(id), partingWith(p, func(p *api.Parting) { p.Taken = nil }), api.ErrNone)
			}
		}
	}
	for id := range 10001 {
		p.Into = 4711
		want := api.ErrNone
		if id == 4711 {
			want = api.OK
		}
		if _, _, err := Split(rec(id, b), p); err != want || Whole(rec(id, b), p) != (want == api.OK) {
			t.Errorf("Split of the record %d is error %d", id, int(err))
		}
	}
}

// P16.4: every number of taken fields of full records, in every third place.
func TestSplitMany(t *testing.T) {
	from := rec(2, times("650", 64)...)
	for n := range 65 {
		p := parting(1, from, upTo(n)...)
		own := times("500", 64-n)
		wantSplit(t, rec(1, slices.Concat(own, from.Fields[:n])...), p, true, own...)
		wantSplit(t, rec(1, slices.Concat(from.Fields[:n], own)...), p, true, own...)
		back := slices.Clone(from.Fields[:n])
		slices.Reverse(back)
		wantSplit(t, rec(1, slices.Concat(back, own)...), p, true, own...)
		if n > 0 {
			wantSplit(t, rec(1, slices.Concat(own, from.Fields[1:n])...), p, false, own...)
			wantSplit(t, rec(1, slices.Concat(own, from.Fields[:n-1])...), p, false, own...)
			wantSplit(t, rec(1, slices.Concat(own, from.Fields[:n/2], from.Fields[n/2+1:n])...), p, false, own...)
		}
	}
	for step := 1; step < 10; step++ {
		var taken []int
		var left []api.Field
		for i, f := range from.Fields {
			if i%step == 0 {
				taken = append(taken, i)
			} else {
				left = append(left, f)
			}
		}
		wantSplit(t, rec(1, from.Fields...), parting(1, from, taken...), true, left...)
	}
}

// P16.4, P16.5: very long records.
func TestSplitLong(t *testing.T) {
	within(t, "Split of a very long record", func() {
		const n = 1 << 15
		own := times("500", n)
		from := rec(2, times("650", 64)...)
		p := parting(1, from, upTo(64)...)
		for _, l := range [][]api.Field{slices.Concat(own, from.Fields), slices.Concat(from.Fields, own)} {
			r := rec(1, l...)
			into, back, err := Split(r, p)
			if err != api.OK || !Whole(r, p) || len(into.Fields) != n || len(back.Fields) != 64 {
				t.Errorf("Split is %s and %s, error %d", short(into), short(back), int(err))
			}
			for i, f := range into.Fields {
				if want := fmt.Sprint("500 number ", i); f.Subs[0].Value != want {
					t.Fatalf("the field %d is %s", i, short(f))
				}
			}
		}
		if Whole(rec(1, own...), p) {
			t.Errorf("Whole finds fields that are not there")
		}
	})
}
