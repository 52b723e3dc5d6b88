package merge

import (
	"fmt"
	"math/rand"
	"slices"
	"testing"

	"library/api"
	"library/record"
)

// numbers are IDs and others around the limits.
var numbers = []int{-1 << 63, -1<<32 + 1, -10000, -9999, -2, -1, 0, 1, 2, 3, 9998, 9999, 10000, 10001, 1 << 16, 1<<32 + 1, 1<<63 - 1}

// inLimits reports whether a number is that of a record.
func inLimits(id int) bool { return id > 0 && id < 10000 }

// P16.1: Into is from 1 to MaxID.
func TestRightInto(t *testing.T) {
	if api.MaxID != 9999 {
		t.Errorf("MaxID is %d", api.MaxID)
	}
	for into, want := range map[int]api.Errno{
		-1 << 63: api.ErrRange, -1: api.ErrRange, 0: api.ErrRange, 1: api.OK, 2: api.OK, 9998: api.OK, 9999: api.OK, 10000: api.ErrRange, 1<<63 - 1: api.ErrRange,
	} {
		wantRight(t, parting(into, rec(5, fd("245", "aDogs")), 0), want)
		wantRight(t, parting(into, rec(5)), want)
	}
	for into := -20000; into <= 20000; into++ {
		want := api.ErrRange
		if inLimits(into) {
			want = api.OK
		}
		if into == 77 {
			want = api.ErrArg
		}
		if got := Right(parting(into, rec(77))); got != want {
			t.Errorf("Right is %d for Into %d, want %d", int(got), into, int(want))
		}
	}
}

// P16.1: the error of record.Right for From, alone and before all later ones.
func TestRightFrom(t *testing.T) {
	good := parting(1, rec(2, fd("245", "aDogs"), fd("650", "aDogs", "xHistory")), 0, 1)
	wantRight(t, good, api.OK)
	for _, f := range otherFaults() {
		bad := good
		bad.From = with(good.From, f.apply)
		if err := record.Right(bad.From); err != f.err {
			t.Fatalf("record.Right is %d for the fault %s", int(err), f.name)
		}
		wantRight(t, bad, f.err)
		for _, taken := range [][]int{nil, {-1}, {2}, {64}, {65}, {0, 0}, {1, 0}, {1, 0, 99}} {
			bad.Taken = taken
			wantRight(t, bad, f.err)
			for _, into := range []int{0, -1, 10000} {
				worse := bad
				worse.Into = into
				wantRight(t, worse, api.ErrRange)
			}
		}
	}
}

// P16.1: From has any number of fields up to MaxFields, and each of them can be wrong.
func TestRightFields(t *testing.T) {
	for n := range 70 {
		from := rec(2, times("500", n)...)
		want := api.OK
		if n > 64 {
			want = api.ErrLong
		}
		wantRight(t, parting(1, from), want)
		for i := range from.Fields {
			bad := with(from, func(r *api.Record) { r.Fields[i].Tag = "5000" })
			if want == api.OK {
				wantRight(t, parting(1, bad, i), api.ErrTag)
			}
		}
	}
}

// P16.1: From has an ID, which is not Into.
func TestRightID(t *testing.T) {
	for _, into := range numbers {
		for _, id := range numbers {
			want := api.OK
			switch {
			case !inLimits(into), !inLimits(id):
				want = api.ErrRange
			case id == into:
				want = api.ErrArg
			}
			for _, taken := range [][]int{nil, {0}, {0, 1}} {
				wantRight(t, parting(into, rec(id, times("500", 2)...), taken...), want)
			}
		}
	}
	for id := 1; id <= 9999; id++ {
		if got := Right(parting(id, rec(id), 0)); got != api.ErrArg {
			t.Errorf("Right is %d for the IDs %d", int(got), id)
		}
	}
	// An ID of 0 comes before wrong elements of Taken, and equal IDs too.
	for _, taken := range [][]int{{-1}, {2}, {0, 0}, {1, 0}} {
		wantRight(t, parting(1, rec(0, times("500", 2)...), taken...), api.ErrRange)
		wantRight(t, parting(1, rec(1, times("500", 2)...), taken...), api.ErrArg)
	}
}

// P16.1: lists of one element.
func TestRightTaken(t *testing.T) {
	for n := range 65 {
		from := rec(2, times("500", n)...)
		wantRight(t, parting(1, from), api.OK)
		wantRight(t, api.Parting{Into: 1, From: from, Taken: []int{}}, api.OK)
		for _, i := range append([]int{n - 1, n, n + 1, -n, 1<<32 + n - 1, 1<<16 + n - 1, 255, 256}, numbers...) {
			want := api.OK
			if i < 0 || i >= n {
				want = api.ErrRange
			}
			wantRight(t, parting(1, from, i), want)
		}
	}
}

// P16.1: lists of several elements, which are all looked up before their order is.
func TestRightOrder(t *testing.T) {
	from := rec(2, times("500", 5)...)
	for _, c := range []struct {
		want  api.Errno
		taken []int
	}{
		{api.OK, []int{0, 1}}, {api.OK, []int{0, 4}}, {api.OK, []int{3, 4}}, {api.OK, []int{0, 1, 2, 3, 4}}, {api.OK, []int{1, 3}},
		{api.ErrTwice, []int{0, 0}}, {api.ErrTwice, []int{4, 4}}, {api.ErrTwice, []int{1, 2, 2, 3}}, {api.ErrTwice, []int{0, 1, 2, 3, 4, 4}},
		{api.ErrTwice, []int{1, 2, 1}}, {api.ErrTwice, []int{0, 4, 0}}, {api.ErrTwice, []int{1, 0}}, {api.ErrTwice, []int{4, 3, 2, 1, 0}},
		{api.ErrTwice, []int{0, 2, 1}}, {api.ErrTwice, []int{0, 2, 1, 3}}, {api.ErrTwice, []int{2, 0, 1}}, {api.ErrTwice, []int{0, 1, 2, 3, 4, 0}},
		{api.ErrRange, []int{-1, 0}}, {api.ErrRange, []int{0, 5}}, {api.ErrRange, []int{0, 1, 2, 3, 4, 5}}, {api.ErrRange, []int{5, 6}}, {api.ErrRange, []int{-2, -1}},
		{api.ErrRange, []int{0, 0, 5}}, {api.ErrRange, []int{0, 0, -1}}, {api.ErrRange, []int{4, 3, 9}}, {api.ErrRange, []int{5, 5}}, {api.ErrRange, []int{-1, -1}},
		{api.ErrRange, []int{5, 0}}, {api.ErrRange, []int{0, 5, 1}}, {api.ErrRange, []int{0, -1, 1}}, {api.ErrRange, []int{1, 1, 1<<63 - 1}}, {api.ErrRange, []int{-1 << 63, 3, 3}},
	} {
		wantRight(t, parting(1, from, c.taken...), c.want)
	}
}

// P16.1: all lists of up to four elements around the fields of records with up to three.
func TestRightLists(t *testing.T) {
	counts := map[api.Errno]int{}
	for n := range 4 {
		from := rec(2, times("500", n)...)
		eachSequence([]int{-1, 0, 1, 2, 3}, 4, func(l []int) {
			p := parting(1, from, l...)
			wantRight(t, p, rightOf(p))
			counts[rightOf(p)]++
		})
	}
	if len(counts) != 3 || counts[api.OK] != 1+2+4+8 {
		t.Errorf("the errors are %v", counts)
	}
}

// P16.1: long lists with a fault at each place.
func TestRightLong(t *testing.T) {
	from := rec(2, times("500", 64)...)
	var all []int
	for i := range 64 {
		all = append(all, i)
	}
	wantRight(t, parting(1, from, all...), api.OK)
	for i := range all {
		less := slices.Delete(slices.Clone(all), i, i+1)
		wantRight(t, parting(1, from, less...), api.OK)
		for _, place := range []int{0, 31, 63} {
			bad := slices.Clone(all)
			bad[place] = i
			wantRight(t, parting(1, from, bad...), errorUnless(place == i, api.ErrTwice))
		}
		for _, value := range []int{-1, 64, 65} {
			bad := slices.Clone(all)
			bad[i] = value
			wantRight(t, parting(1, from, bad...), api.ErrRange)
		}
		wantRight(t, parting(1, from, append(slices.Clone(all), i)...), api.ErrTwice)
		wantRight(t, parting(1, from, slices.Insert(slices.Clone(all), i, i)...), api.ErrTwice)
	}
	wantRight(t, parting(1, from, append(all, 64)...), api.ErrRange)
	within(t, "Right of a very long list", func() {
		long := make([]int, 1<<20)
		wantRight(t, parting(1, from, long...), api.ErrTwice)
		long[1<<20-1] = -1
		wantRight(t, parting(1, from, long...), api.ErrRange)
	})
}

// errorUnless returns an error that applies otherwise.
func errorUnless(fine bool, err api.Errno) api.Errno {
	if fine {
		return api.OK
	}
	return err
}

// P16.1: every choice of faults; the first one counts.
func TestRightFaults(t *testing.T) {
	good := parting(1, rec(2, fd("245", "aDogs"), fd("650", "aDogs")), 0, 1)
	type wrong struct {
		err   api.Errno
		apply func(*api.Parting)
	}
	list := []wrong{{api.ErrRange, func(p *api.Parting) { p.Into = 10000 }}}
	for _, f := range faults() {
		if f.name != "ID" {
			list = append(list, wrong{f.err, func(p *api.Parting) { p.From = with(p.From, f.apply) }})
		}
	}
	list = append(list,
		wrong{api.ErrRange, func(p *api.Parting) { p.From.ID = 0 }},
		wrong{api.ErrRange, func(p *api.Parting) { p.Taken = append(slices.Clone(p.Taken), 99) }},
		wrong{api.ErrTwice, func(p *api.Parting) { p.Taken = append([]int{1}, p.Taken...) }},
	)
	eachChoice(len(list), func(l []int) {
		for _, equalIDs := range []bool{false, true} {
			p, want := good, api.OK
			// In this order no fault undoes one with an earlier error.
			for _, i := range slices.Backward(l) {
				list[i].apply(&p)
				want = list[i].err
			}
			// Equal IDs come before the two faults of Taken, and an ID of 0 cannot be Into without another error.
			if equalIDs && p.From.ID != 0 {
				p.From.ID = min(p.Into, api.MaxID)
				if len(l) == 0 || l[0] >= len(list)-2 {
					want = api.ErrArg
				}
			}
			if got := Right(p); got != want || rightOf(p) != want {
				t.Errorf("Right is %d, the description says %d, want %d: %s", int(got), int(rightOf(p)), int(want), short(p))
			}
		}
	})
}

// P16.1: every choice of parts from right and wrong ones, against the description.
func TestRightParts(t *testing.T) {
	from := []api.Record{rec(0), rec(0, times("500", 2)...), rec(0, fd("24", "aDogs"), fd("245", "aDogs"))}
	for _, f := range faults() {
		from = append(from, with(from[1], f.apply))
	}
	counts := map[api.Errno]int{}
	for _, into := range numbers {
		for _, id := range numbers {
			for _, r := range from {
				if r.ID == 0 {
					r.ID = id
				}
				for _, taken := range [][]int{nil, {0}, {1}, {0, 1}, {1, 0}, {0, 0}, {-1}, {2}, {0, 0, 2}, {2, 1}} {
					p := parting(into, r, taken...)
					wantRight(t, p, rightOf(p))
					counts[rightOf(p)]++
				}
			}
		}
	}
	for _, err := range []api.Errno{api.OK, api.ErrRange, api.ErrVersion, api.ErrArg, api.ErrForm, api.ErrLong, api.ErrTag, api.ErrTwice} {
		if counts[err] == 0 {
			t.Errorf("no error %d: %v", int(err), counts)
		}
	}
}

// P16.1: random partings, against the description.
func TestRightRandom(t *testing.T) {
	r := rand.New(rand.NewSource(1))
	for range 5000 {
		n := r.Intn(66)
		p := parting(pick(r, numbers...), rec(pick(r, 1, 2, 3, r.Intn(12000)-1000), times(fmt.Sprint(r.Intn(90)+10, 0), n)...))
		if r.Intn(4) > 0 {
			p.Into = r.Intn(9999) + 1
		}
		for i := range n {
			if r.Intn(3) == 0 {
				p.Taken = append(p.Taken, i)
			}
		}
		if r.Intn(3) == 0 {
			p.Taken = append(p.Taken, r.Intn(80)-5)
		}
		wantRight(t, p, rightOf(p))
	}
}
