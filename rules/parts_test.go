package rules

import (
	"math/rand"
	"slices"
	"testing"

	"library/api"
)

// ofKinds returns the problems of a field with one of some kinds, as if it had the index 0.
func ofKinds(l []api.Problem, index int, kinds ...int) []api.Problem {
	var list []api.Problem
	for _, x := range l {
		if x.Index == index && slices.Contains(kinds, x.Kind) {
			x.Index = 0
			list = append(list, x)
		}
	}
	return list
}

// wantParts checks what P9.6 says of a record.
func wantParts(t *testing.T, l []api.TagRule, r api.Record) {
	t.Helper()
	all := Check(l, r)
	for i, f := range r.Fields {
		alone := Check(l, book(f))
		if got, want := ofKinds(all, i, 2, 4, 5, 6, 7), ofKinds(alone, 0, 2, 4, 5, 6, 7); !slices.Equal(got, want) {
			t.Errorf("field %d has %s, and alone %s, in %s under %s", i, shownProblems(got), shownProblems(want), shown(r), shownRules(l))
		}
		if got := ofKinds(alone, 0, 3); len(got) != 0 {
			t.Errorf("a single field has %s, for %s under %s", shownProblems(got), shown(book(f)), shownRules(l))
		}
	}
	bare := r
	bare.Fields = nil
	var want []api.Problem
	for _, rule := range l {
		if rule.Must {
			want = append(want, p(1, -1, rule.Tag, 0))
		}
	}
	if got := Check(l, bare); !slices.Equal(got, want) {
		t.Errorf("Check of a record without fields is %s, not %s, under %s", shownProblems(got), shownProblems(want), shownRules(l))
	}
	if got := Sound(l, bare); got != (len(want) == 0) {
		t.Errorf("Sound of a record without fields is %v under %s", got, shownRules(l))
	}
}

// P9.6: many records under many rules, and under the standard rules.
func TestParts(t *testing.T) {
	random := rand.New(rand.NewSource(96))
	for range 20000 {
		r := randomRecord(random)
		wantParts(t, randomRules(t, random, 6), r)
		wantParts(t, Standard(), r)
	}
}

// P9.6: fields of all standard rules, in many orders.
func TestPartsStandard(t *testing.T) {
	random := rand.New(rand.NewSource(97))
	for range 300 {
		var fields []api.Field
		for _, rule := range append(Standard(), Standard()...) {
			f := with(rule.Tag, randomCodes(random, rule.Codes+"4abct"+rule.Once))
			fields = append(fields, to(random.Intn(2)*random.Intn(9999), f))
		}
		random.Shuffle(len(fields), func(i, j int) { fields[i], fields[j] = fields[j], fields[i] })
		wantParts(t, Standard(), book(fields[:random.Intn(len(fields)+1)]...))
	}
}

// P9.6: what stands before and behind a field changes its problems of kind 3 alone.
func TestPartsAround(t *testing.T) {
	random := rand.New(rand.NewSource(98))
	for range 3000 {
		l, r := randomRules(t, random, 6), randomRecord(random)
		i, j := 0, len(r.Fields)
		if j > 0 {
			i = random.Intn(j)
		}
		part := r
		part.Fields = r.Fields[i:j]
		all, some := Check(l, r), Check(l, part)
		for n := range part.Fields {
			if got, want := ofKinds(all, i+n, 2, 4, 5, 6, 7), ofKinds(some, n, 2, 4, 5, 6, 7); !slices.Equal(got, want) {
				t.Errorf("field %d has %s, and with fewer before it %s", i+n, shownProblems(got), shownProblems(want))
			}
		}
	}
}
