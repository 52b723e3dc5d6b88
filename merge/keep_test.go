package merge

import (
	"fmt"
	"math/rand"
	"slices"
	"testing"

	"library/api"
)

// P16.2: the standard rules, in their order.
func TestStandard(t *testing.T) {
	if api.KeepNone != 0 || api.KeepNew != 1 || api.KeepMissing != 2 {
		t.Errorf("the kinds of keeping are %d, %d and %d", api.KeepNone, api.KeepNew, api.KeepMissing)
	}
	want := []api.Keep{
		{Tag: "100", How: api.KeepMissing}, {Tag: "110", How: api.KeepMissing}, {Tag: "245", How: api.KeepMissing}, {Tag: "250", How: api.KeepMissing},
		{Tag: "260", How: api.KeepMissing}, {Tag: "264", How: api.KeepMissing}, {Tag: "300", How: api.KeepMissing}, {Tag: "490", How: api.KeepMissing},
		{Tag: "830", How: api.KeepMissing}, {Tag: "856", How: api.KeepNone},
	}
	got := pure(t, input{}, func(input) []api.Keep { return Standard() })
	if len(got) != len(want) {
		t.Fatalf("Standard has %d rules, want %d: %s", len(got), len(want), short(got))
	}
	tags, hows := standardOf()
	for i := range want {
		if got[i] != want[i] {
			t.Errorf("rule %d is %s, want %s", i, short(got[i]), short(want[i]))
		}
		if want[i] != keep(tags[i], hows[i]) {
			t.Errorf("the description says %s of rule %d, want %s", short(keep(tags[i], hows[i])), i, short(want[i]))
		}
	}
}

// P16.2: the standard rules stay as they are, whatever callers do with them.
func TestStandardOwn(t *testing.T) {
	first := Standard()
	kept := slices.Clone(first)
	for i := range first {
		first[i] = keep("999", 77)
	}
	_ = append(first[:0], keep("998", 78))
	if second := Standard(); !slices.Equal(second, kept) {
		t.Errorf("Standard becomes %s", short(second))
	}
	wantHow(t, Standard(), "100", api.KeepMissing)
	wantHow(t, Standard(), "999", api.KeepNew)
}

// P16.2: what the standard rules keep of every tag.
func TestHowStandard(t *testing.T) {
	tags, hows := standardOf()
	for n := range 1000 {
		tag := fmt.Sprintf("%03d", n)
		want := api.KeepNew
		if i := slices.Index(tags, tag); i >= 0 {
			want = hows[i]
		}
		wantHow(t, Standard(), tag, want)
	}
	for _, tag := range []string{"", "1", "10", "1000", "0100", " 100", "100 ", "24", "2450", "85", "8560", "856\x00", "\xff", "\uff12\uff14\uff15", "245856", "tag"} {
		wantHow(t, Standard(), tag, api.KeepNew)
	}
}

// P16.2: no, one and several rules of a tag.
func TestHow(t *testing.T) {
	wantHow(t, nil, "245", api.KeepNew)
	wantHow(t, nil, "", api.KeepNew)
	wantHow(t, []api.Keep{}, "245", api.KeepNew)
	for how := range 3 {
		wantHow(t, []api.Keep{keep("245", how)}, "245", how)
		wantHow(t, []api.Keep{keep("245", how)}, "246", api.KeepNew)
		wantHow(t, []api.Keep{keep("245", how)}, "", api.KeepNew)
		wantHow(t, []api.Keep{keep("", how)}, "", how)
		wantHow(t, []api.Keep{keep("", how)}, "245", api.KeepNew)
		for other := range 3 {
			wantHow(t, []api.Keep{keep("245", how), keep("245", other)}, "245", how)
			wantHow(t, []api.Keep{keep("246", other), keep("245", how)}, "245", how)
			wantHow(t, []api.Keep{keep("245", how), keep("246", other)}, "245", how)
			wantHow(t, []api.Keep{keep("", other), keep("245", how), keep("", how)}, "245", how)
			wantHow(t, []api.Keep{keep("", other), keep("245", how), keep("", how)}, "", other)
		}
	}
}

// P16.2: tags that are alike are not the same.
func TestHowAlike(t *testing.T) {
	alike := []string{"", "2", "24", "245", "2450", "24500", "0245", "245 ", " 245", "45", "5", "246", "244", "542", "24\u0665", "\xff45", "245\x00", "a45", "A45"}
	for _, tag := range alike {
		for _, other := range alike {
			for how := range 3 {
				want := api.KeepNew
				if tag == other {
					want = how
				}
				wantHow(t, []api.Keep{keep(tag, how)}, other, want)
			}
		}
	}
	var all []api.Keep
	for i, tag := range alike {
		all = append(all, keep(tag, i%3))
	}
	for i, tag := range alike {
		wantHow(t, all, tag, i%3)
	}
}

// P16.2: all lists of up to four rules for two tags; the first one of a tag counts.
func TestHowLists(t *testing.T) {
	var rules []api.Keep
	for how := range 3 {
		rules = append(rules, keep("245", how), keep("246", how))
	}
	eachSequence(rules, 4, func(l []api.Keep) {
		for _, tag := range []string{"245", "246", "247"} {
			want := api.KeepNew
			if i := slices.IndexFunc(l, func(k api.Keep) bool { return k.Tag == tag }); i >= 0 {
				want = l[i].How
			}
			wantHow(t, l, tag, want)
		}
	})
}

// P16.2: the place of a rule does not matter, nor the number of rules.
func TestHowLong(t *testing.T) {
	var list []api.Keep
	for n := range 1000 {
		list = append(list, keep(fmt.Sprintf("%03d", n), n*7%3))
	}
	list = append(list, list...)
	for i := range 1000 {
		list[1000+i].How = (list[i].How + 1) % 3
	}
	for n := range 1000 {
		tag := fmt.Sprintf("%03d", n)
		if got := How(list, tag); got != n*7%3 {
			t.Errorf("How of %s is %d", tag, got)
		}
		if got := How(list[n+1:], tag); got != (n*7+1)%3 {
			t.Errorf("How of %s in the second half is %d", tag, got)
		}
	}
	within(t, "How of a very long list", func() {
		long := slices.Repeat([]api.Keep{keep("245", 2)}, 1<<18)
		long = append(long, keep("246", 0))
		wantHow(t, long, "246", 0)
		wantHow(t, long, "245", 2)
		wantHow(t, long, "247", 1)
	})
}

// P16.2: random rules, against the description; what is kept is returned as it stands.
func TestHowRandom(t *testing.T) {
	r := rand.New(rand.NewSource(2))
	tags := []string{"", "100", "245", "245", "650", "856", "x", "\xff"}
	for range 5000 {
		var l []api.Keep
		for range r.Intn(9) {
			l = append(l, keep(pick(r, tags...), pick(r, 0, 1, 2, -1, 3, 1<<63-1, -1<<63)))
		}
		for _, tag := range tags {
			wantHow(t, l, tag, howOf(l, tag))
		}
	}
}
