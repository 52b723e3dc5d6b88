package rules

import (
	"fmt"
	"math/rand"
	"slices"
	"strings"
	"testing"

	"library/api"
	"library/record"
)

// p returns a problem.
func p(kind, index int, tag string, code byte) api.Problem {
	return api.Problem{Kind: kind, Index: index, Tag: tag, Code: code}
}

// has reports whether a list of codes contains a code.
func has(codes string, code byte) bool { return strings.Contains(codes, string([]byte{code})) }

// checkOf returns what the document says that Check returns.
func checkOf(l []api.TagRule, r api.Record) []api.Problem {
	var list []api.Problem
	for _, rule := range l {
		if rule.Must && len(places(r, rule.Tag)) == 0 {
			list = append(list, p(1, -1, rule.Tag, 0))
		}
	}
	for i, f := range r.Fields {
		n := slices.IndexFunc(l, func(rule api.TagRule) bool { return rule.Tag == f.Tag })
		if n < 0 {
			list = append(list, p(2, i, f.Tag, 0))
			continue
		}
		if !l[n].Repeat && places(r, f.Tag)[0] < i {
			list = append(list, p(3, i, f.Tag, 0))
		}
		list = append(list, subsOf(l[n], i, f.Subs)...)
		if f.Auth != 0 && l[n].Auth == 0 {
			list = append(list, p(7, i, f.Tag, 0))
		}
	}
	return list
}

// places returns the indices of the fields with a tag.
func places(r api.Record, tag string) []int {
	var list []int
	for i, f := range r.Fields {
		if f.Tag == tag {
			list = append(list, i)
		}
	}
	return list
}

// subsOf returns the problems of the subfields of field i.
func subsOf(rule api.TagRule, i int, subs []api.Sub) []api.Problem {
	var list []api.Problem
	var codes []byte
	for _, s := range subs {
		if !has(rule.Codes, s.Code) {
			list = append(list, p(4, i, rule.Tag, s.Code))
		} else if has(rule.Once, s.Code) && slices.Contains(codes, s.Code) {
			list = append(list, p(5, i, rule.Tag, s.Code))
		}
		codes = append(codes, s.Code)
	}
	for _, c := range []byte(rule.Needs) {
		if !slices.Contains(codes, c) {
			list = append(list, p(6, i, rule.Tag, c))
		}
	}
	return list
}

// wantCheck compares Check and Sound with what they must return, and checks that the rules and the record stay as they were.
func wantCheck(t *testing.T, l []api.TagRule, r api.Record, want ...api.Problem) {
	t.Helper()
	rules, given := roomyRules(l), roomy(r)
	sameRules, same := rulesKeeper(rules), keeper(given)
	got := Check(rules, given)
	if !slices.Equal(got, want) {
		t.Errorf("Check is %s, not %s, for %s under %s", shownProblems(got), shownProblems(want), shown(r), shownRules(l))
	}
	if model := checkOf(l, r); !slices.Equal(model, want) {
		t.Errorf("the definition gives %s, not %s, for %s under %s", shownProblems(model), shownProblems(want), shown(r), shownRules(l))
	}
	if Sound(rules, given) != (len(want) == 0) {
		t.Errorf("Sound is %v with the problems %s, for %s under %s", len(want) > 0, shownProblems(want), shown(r), shownRules(l))
	}
	// Nor does a change of the list that Check returned reach what it was given, or what it returns later.
	clear(got[:cap(got)])
	if !sameRules() || !same() {
		t.Errorf("Check changes what it was given, for %s under %s", shown(r), shownRules(l))
	}
	if again := Check(rules, given); !slices.Equal(again, want) {
		t.Errorf("Check a second time is %s, not %s, for %s under %s", shownProblems(again), shownProblems(want), shown(r), shownRules(l))
	}
}

// shownProblems shows problems.
func shownProblems(l []api.Problem) string {
	var b strings.Builder
	for _, x := range l {
		fmt.Fprintf(&b, "{%d, field %d, %q, %q}", x.Kind, x.Index, x.Tag, x.Code)
	}
	return fmt.Sprintf("%d problems %s", len(l), short(b.String()))
}

// P9.4, P9.5: the chapter's examples.
func TestCheckExamples(t *testing.T) {
	wantCheck(t, Standard(), book(with("245", "a")))
	wantCheck(t, Standard(), book(), p(1, -1, "245", 0))
	wantCheck(t, Standard(), book(with("245", "bccq")), p(5, 0, "245", 'c'), p(4, 0, "245", 'q'), p(6, 0, "245", 'a'))
}

// musts returns a rule for each of five tags; those whose bits are set have Must.
func musts(set int) []api.TagRule {
	var list []api.TagRule
	for i, tag := range []string{"100", "200", "300", "400", "500"} {
		list = append(list, api.TagRule{Tag: tag, Must: set>>i&1 == 1, Repeat: true, Codes: "a"})
	}
	return list
}

// P9.4: records without fields, under rules with no, one and many Must.
func TestCheckNoFields(t *testing.T) {
	for set := range 32 {
		var want []api.Problem
		for i := range 5 {
			if set>>i&1 == 1 {
				want = append(want, p(1, -1, []string{"100", "200", "300", "400", "500"}[i], 0))
			}
		}
		for _, r := range []api.Record{{}, book(), {Fields: []api.Field{}}, {Fields: make([]api.Field, 0, 9)}, {ID: -1, Version: 9, Kind: 77, Lang: "E"}} {
			wantCheck(t, musts(set), r, want...)
		}
	}
	var want []api.Problem
	full := ruleList(32)
	for i := range full {
		full[i].Must = true
		want = append(want, p(1, -1, full[i].Tag, 0))
	}
	wantCheck(t, full, book(), want...)
	wantCheck(t, nil, api.Record{})
	wantCheck(t, nil, book())
	wantCheck(t, []api.TagRule{}, api.Record{Fields: []api.Field{}})
}

// P9.4: every choice of tags that a record must have and of those that it has, in both orders.
func TestCheckMust(t *testing.T) {
	for set := range 32 {
		for there := range 32 {
			var fields []api.Field
			var want []api.Problem
			for i, tag := range []string{"100", "200", "300", "400", "500"} {
				if there>>i&1 == 1 {
					fields = append(fields, with(tag, "a"))
				} else if set>>i&1 == 1 {
					want = append(want, p(1, -1, tag, 0))
				}
			}
			wantCheck(t, musts(set), book(fields...), want...)
			slices.Reverse(fields)
			wantCheck(t, musts(set), book(fields...), want...)
		}
	}
}

// P9.4: a tag that the record must have stands at any place of it, in a field that has problems, too, but not in a tag that is only like it.
func TestCheckMustPlaces(t *testing.T) {
	for n := range 65 {
		fields := slices.Repeat([]api.Field{with("500", "a")}, n)
		wantCheck(t, Standard(), book(fields...), p(1, -1, "245", 0))
		for i := range n + 1 {
			wantCheck(t, Standard(), book(slices.Insert(slices.Clone(fields), i, with("245", "a"))...))
		}
	}
	wantCheck(t, Standard(), book(with("245", "")), p(6, 0, "245", 'a'))
	wantCheck(t, Standard(), book(to(3, with("245", "q"))), p(4, 0, "245", 'q'), p(6, 0, "245", 'a'), p(7, 0, "245", 0))
	for _, tag := range append([]string{"24", "2450", "0245", "245 ", " 245", "244", "243", "255", "345", "254", "542"}, oddTags...) {
		wantCheck(t, Standard(), book(with(tag, "a")), p(1, -1, "245", 0), p(2, 0, tag, 0))
		wantCheck(t, Standard(), book(with(tag, "a"), with("245", "a"), with(tag, "a")), p(2, 0, tag, 0), p(2, 2, tag, 0))
	}
}

// P9.4: fields whose tag no rule has, at each place; nothing else is reported for them.
func TestCheckUnknown(t *testing.T) {
	unknown := []api.Field{with("999", "a"), with("999", ""), to(9999, with("999", "")), to(-1, with("011", "qqq")), to(3, with("244", "aa")), with("", ""), with("24", "a"), with("2450", "AA"), {}, with("\x00\xff\n", "\x00\xff\n"), with("24\u0665", "a"), with(strings.Repeat("245", 1000), "a")}
	for _, f := range unknown {
		for n := range 5 {
			fields := slices.Repeat([]api.Field{with("500", "a")}, n)
			fields = append(fields, with("245", "a"))
			for i := range n + 2 {
				wantCheck(t, Standard(), book(slices.Insert(slices.Clone(fields), i, f)...), p(2, i, f.Tag, 0))
				// A tag that no rule has can stand there several times.
				wantCheck(t, Standard(), book(slices.Insert(slices.Clone(fields), i, f, f, f)...), p(2, i, f.Tag, 0), p(2, i+1, f.Tag, 0), p(2, i+2, f.Tag, 0))
			}
		}
		wantCheck(t, nil, book(f), p(2, 0, f.Tag, 0))
		wantCheck(t, []api.TagRule{}, book(f, f), p(2, 0, f.Tag, 0), p(2, 1, f.Tag, 0))
	}
}

// P9.4: no rules at all; every field has a tag that no rule has.
func TestCheckNoRules(t *testing.T) {
	random := rand.New(rand.NewSource(94))
	for range 500 {
		r := randomRecord(random)
		var want []api.Problem
		for i, f := range r.Fields {
			want = append(want, p(2, i, f.Tag, 0))
		}
		wantCheck(t, nil, r, want...)
		wantCheck(t, []api.TagRule{}, r, want...)
	}
}

// P9.4: every tag of three digits under the standard rules.
func TestCheckTags(t *testing.T) {
	for n := range 1000 {
		tag := fmt.Sprintf("%03d", n)
		r := book(with("245", "a"), with(tag, ""), with("245", "a"), with(tag, ""))
		if _, ok := Find(Standard(), tag); !ok {
			wantCheck(t, Standard(), r, p(2, 1, tag, 0), p(3, 2, "245", 0), p(2, 3, tag, 0))
		} else {
			wantCheck(t, Standard(), r, checkOf(Standard(), r)...)
		}
	}
}

// P9.4: tags several times, with and without Repeat, with others before, between and behind them.
func TestCheckRepeat(t *testing.T) {
	rules := []api.TagRule{{Tag: "100", Codes: "a"}, {Tag: "200", Repeat: true, Codes: "a"}, {Tag: "300", Codes: "a"}}
	choice := []string{"100", "200", "300", "400"}
	count := 1
	for n := range 7 {
		for code := range count {
			var fields []api.Field
			var want []api.Problem
			seen := map[string]int{}
			for i := range n {
				tag := choice[code%4]
				code /= 4
				fields = append(fields, with(tag, "a"))
				seen[tag]++
				switch {
				case tag == "400":
					want = append(want, p(2, i, tag, 0))
				case tag != "200" && seen[tag] > 1:
					want = append(want, p(3, i, tag, 0))
				}
			}
			wantCheck(t, rules, book(fields...), want...)
		}
		count *= 4
	}
}

// P9.4: the first, the second and the third field with a tag of each standard rule.
func TestCheckRepeatStandard(t *testing.T) {
	for _, rule := range documentRules() {
		f, title := with(rule.Tag, rule.Codes), []api.Field{with("245", "a")}
		if rule.Tag == "245" {
			title = nil
		}
		wantCheck(t, Standard(), book(append(title, f)...))
		var two, three []api.Problem
		if n := len(title); !rule.Repeat {
			two = []api.Problem{p(3, n+1, rule.Tag, 0)}
			three = []api.Problem{p(3, n+1, rule.Tag, 0), p(3, n+2, rule.Tag, 0)}
		}
		wantCheck(t, Standard(), book(append(title, f, f)...), two...)
		wantCheck(t, Standard(), book(append(title, f, f, f)...), three...)
	}
	// What the fields have besides their tag makes no difference.
	other := api.Field{Tag: "245", Ind: "  ", Subs: []api.Sub{{Code: 'a', Value: "y"}, {Code: 'p', Value: "z"}}}
	wantCheck(t, Standard(), book(with("245", "a"), other), p(3, 1, "245", 0))
	wantCheck(t, Standard(), book(other, with("100", "a"), with("245", "a")), p(3, 2, "245", 0))
}

// one returns the rules for records that need not have a field: a single rule for 245.
func one(codes, once, needs string) []api.TagRule {
	return []api.TagRule{{Tag: "245", Codes: codes, Once: once, Needs: needs}}
}

// P9.4: every byte as a code, in and out of Codes, alone and between others.
func TestCheckCodes(t *testing.T) {
	for _, codes := range []string{"a", "z", "0", "09az", "abcnp", "4ad", allCodes} {
		for c := range 256 {
			code := string([]byte{byte(c)})
			var want, second []api.Problem
			if !has(codes, byte(c)) {
				want = append(want, p(4, 0, "245", byte(c)))
				second = append(second, p(4, 1, "245", byte(c)), p(4, 1, "245", byte(c)))
			}
			wantCheck(t, one(codes, "", ""), book(with("245", code)), want...)
			wantCheck(t, one(codes, "", ""), book(with("245", codes+code)), want...)
			wantCheck(t, one(codes, "", ""), book(with("245", code+codes)), want...)
			wantCheck(t, one(codes, codes, ""), book(with("245", code)), want...)
			repeat := one(codes, "", "")
			repeat[0].Repeat = true
			wantCheck(t, repeat, book(with("245", codes), with("245", code+codes+code)), second...)
		}
	}
}

// P9.4: the codes of each standard rule, and every other byte.
func TestCheckCodesStandard(t *testing.T) {
	for _, rule := range documentRules() {
		for c := range 256 {
			f := with(rule.Tag, rule.Codes)
			f.Subs = append(f.Subs, sub(byte(c)))
			var want []api.Problem
			if rule.Tag != "245" {
				want = append(want, p(1, -1, "245", 0))
			}
			switch {
			case !has(rule.Codes, byte(c)):
				want = append(want, p(4, 0, rule.Tag, byte(c)))
			case has(rule.Once, byte(c)):
				want = append(want, p(5, 0, rule.Tag, byte(c)))
			}
			wantCheck(t, Standard(), book(f), want...)
		}
	}
}

// P9.4: codes of Once once, twice and three times, with others between them, and codes out of Codes several times: all lists of up to five subfields.
func TestCheckOnce(t *testing.T) {
	last := []string{""}
	for range 6 {
		for _, subs := range last {
			var want []api.Problem
			for i := range len(subs) {
				switch again := strings.Contains(subs[:i], subs[i:i+1]); {
				case subs[i] == 'q' || subs[i] == 'A':
					want = append(want, p(4, 0, "245", subs[i]))
				case again && subs[i] != 'b':
					want = append(want, p(5, 0, "245", subs[i]))
				}
			}
			wantCheck(t, one("abc", "ac", ""), book(with("245", subs)), want...)
		}
		var next []string
		for _, s := range last {
			for _, c := range "abcqA" {
				next = append(next, s+string(c))
			}
		}
		last = next
	}
}

// P9.4: many subfields with the same code.
func TestCheckOnceOften(t *testing.T) {
	for n := range 300 {
		var once, unknown []api.Problem
		for i := range n {
			unknown = append(unknown, p(4, 0, "245", 'q'))
			if i > 0 {
				once = append(once, p(5, 0, "245", 'a'))
			}
		}
		wantCheck(t, one("ab", "a", ""), book(with("245", strings.Repeat("a", n))), once...)
		wantCheck(t, one("ab", "a", ""), book(with("245", strings.Repeat("b", n))))
		wantCheck(t, one("ab", "a", ""), book(with("245", strings.Repeat("q", n))), unknown...)
		wantCheck(t, one("ab", "a", ""), book(with("245", strings.Repeat("ab", n))), once...)
	}
	// Subfields of other fields do not count.
	repeat := one("ab", "a", "")
	repeat[0].Repeat = true
	wantCheck(t, repeat, book(with("245", "ab"), with("245", "a"), with("245", "baa"), with("245", "a")), p(5, 2, "245", 'a'))
	// Nor do their values.
	f := api.Field{Tag: "245", Subs: []api.Sub{{Code: 'a', Value: "x"}, {Code: 'a', Value: "y"}, {Code: 'a', Value: ""}, {Code: 'b', Value: "x"}}}
	wantCheck(t, one("ab", "a", ""), book(f), p(5, 0, "245", 'a'), p(5, 0, "245", 'a'))
}

// P9.4: each choice of the codes of Needs, and each choice of those that the field has, in both orders, with others between them.
func TestCheckNeeds(t *testing.T) {
	const codes = "1acxz"
	for need := range 32 {
		for there := range 32 {
			var needs, subs []byte
			var want []api.Problem
			for i := range len(codes) {
				if need>>i&1 == 1 {
					needs = append(needs, codes[i])
				}
				if there>>i&1 == 1 {
					subs = append(subs, codes[i])
				} else if need>>i&1 == 1 {
					want = append(want, p(6, 0, "245", codes[i]))
				}
			}
			rules := one("12acmxz", "", string(needs))
			wantCheck(t, rules, book(with("245", string(subs))), want...)
			wantCheck(t, rules, book(with("245", "m"+string(subs)+"2"+string(subs))), want...)
			slices.Reverse(subs)
			wantCheck(t, rules, book(with("245", string(subs)+"m")), want...)
			wantCheck(t, rules, book(with("245", "A"+string(subs))), append([]api.Problem{p(4, 0, "245", 'A')}, want...)...)
		}
	}
	var want []api.Problem
	for i := range len(allCodes) {
		want = append(want, p(6, 0, "245", allCodes[i]))
	}
	wantCheck(t, one(allCodes, allCodes, allCodes), book(with("245", "")), want...)
	wantCheck(t, one(allCodes, allCodes, allCodes), book(with("245", allCodes)))
	// Subfields of other fields do not count.
	repeat := one("ab", "", "ab")
	repeat[0].Repeat = true
	wantCheck(t, repeat, book(with("245", "a"), with("245", "ab"), with("245", "b")), p(6, 0, "245", 'b'), p(6, 2, "245", 'a'))
}

// P9.4: subfields that lack a value are there all the same.
func TestCheckNeedsValue(t *testing.T) {
	f := api.Field{Tag: "245", Subs: []api.Sub{{Code: 'a'}, {Code: 'b'}}}
	wantCheck(t, one("abc", "", "ab"), book(f))
	wantCheck(t, one("abc", "", "abc"), book(f), p(6, 0, "245", 'c'))
}

// P9.4: Auth of fields, with and without Auth of the rule.
func TestCheckAuth(t *testing.T) {
	auths := append([]int{0, 1, 2, 3, 4, 5, 9998, 9999, -1}, far...)
	for _, auth := range auths {
		for kind := range 5 {
			rules := one("a", "", "")
			rules[0].Auth = kind
			var want []api.Problem
			if auth != 0 && kind == 0 {
				want = append(want, p(7, 0, "245", 0))
			}
			wantCheck(t, rules, book(to(auth, with("245", "a"))), want...)
		}
	}
	for _, rule := range documentRules() {
		if rule.Tag == "245" {
			continue
		}
		for _, auth := range auths {
			var want []api.Problem
			if auth != 0 && rule.Auth == 0 {
				want = append(want, p(7, 1, rule.Tag, 0))
			}
			wantCheck(t, Standard(), book(with("245", "a"), to(auth, with(rule.Tag, rule.Codes)), with("500", "a")), want...)
		}
	}
}

// P9.4: all kinds of problems in one field, in the promise's order.
func TestCheckAllInOne(t *testing.T) {
	rules := []api.TagRule{
		{Tag: "100", Must: true, Codes: "a"},
		{Tag: "245", Must: true, Codes: "abcd", Once: "ab", Needs: "bcd"},
		{Tag: "600", Must: true, Codes: "a"},
	}
	r := book(with("245", "bcd"), to(7, with("245", "zaxaxabcbc")))
	wantCheck(t, rules, r,
		p(1, -1, "100", 0), p(1, -1, "600", 0),
		p(3, 1, "245", 0), p(4, 1, "245", 'z'), p(4, 1, "245", 'x'), p(5, 1, "245", 'a'), p(4, 1, "245", 'x'), p(5, 1, "245", 'a'), p(5, 1, "245", 'b'), p(6, 1, "245", 'd'), p(7, 1, "245", 0))
	r = book(with("245", "bcd"), to(7, with("245", "aa")))
	wantCheck(t, rules, r, p(1, -1, "100", 0), p(1, -1, "600", 0),
		p(3, 1, "245", 0), p(5, 1, "245", 'a'), p(6, 1, "245", 'b'), p(6, 1, "245", 'c'), p(6, 1, "245", 'd'), p(7, 1, "245", 0))
}

// P9.4: every choice of kinds of problems in one field, with those of the record before them, and those of other fields around them.
func TestCheckChoices(t *testing.T) {
	rules := []api.TagRule{{Tag: "100", Must: true, Codes: "a"}, {Tag: "245", Codes: "abcd", Once: "ab", Needs: "cd"}, {Tag: "500", Repeat: true, Codes: "a", Needs: "a"}}
	for set := range 1 << 6 {
		chosen := func(n int) bool { return set>>n&1 == 1 }
		var want []api.Problem
		fields := []api.Field{with("500", "a"), with("500", "a")}
		subs, auth := "dab", 0
		if chosen(0) {
			want = append(want, p(1, -1, "100", 0))
		} else {
			fields[0] = with("100", "a")
		}
		if chosen(1) {
			want = append(want, p(3, 2, "245", 0))
			fields[1] = with("245", "cd")
		}
		if chosen(2) {
			want = append(want, p(4, 2, "245", 'e'))
			subs += "e"
		}
		if chosen(3) {
			want = append(want, p(5, 2, "245", 'a'))
			subs += "a"
		}
		if chosen(4) {
			want = append(want, p(6, 2, "245", 'c'))
		} else {
			subs += "c"
		}
		if chosen(5) {
			want = append(want, p(7, 2, "245", 0))
			auth = 7
		}
		fields = append(fields, to(auth, with("245", subs)))
		wantCheck(t, rules, book(fields...), want...)
		fields = append(fields, with("500", "b"), with("999", "b"), to(1, with("500", "aa")))
		want = append(want, p(4, 3, "500", 'b'), p(6, 3, "500", 'a'), p(2, 4, "999", 0), p(7, 5, "500", 0))
		wantCheck(t, rules, book(fields...), want...)
	}
}

// P9.4: problems in several fields, in the order of the fields.
func TestCheckSeveral(t *testing.T) {
	wantCheck(t, Standard(), book(
		to(2, with("500", "aab")),
		with("999", "aab"),
		to(1, with("100", "4ad4d")),
		with("100", "da"),
		with("100", "d"),
		to(1, with("250", "abab")),
		to(5, with("250", "")),
		with("700", "44add4A"),
		with("2450", "a"),
		to(3, with("650", "xaxyzy")),
		to(3, with("650", "xaxyzya0")),
		to(3, with("999", "")),
	),
		p(1, -1, "245", 0),
		p(5, 0, "500", 'a'), p(4, 0, "500", 'b'), p(7, 0, "500", 0),
		p(2, 1, "999", 0),
		p(3, 3, "100", 0),
		p(3, 4, "100", 0), p(6, 4, "100", 'a'),
		p(7, 5, "250", 0),
		p(3, 6, "250", 0), p(7, 6, "250", 0),
		p(4, 7, "700", 'A'),
		p(2, 8, "2450", 0),
		p(5, 10, "650", 'a'), p(4, 10, "650", '0'),
		p(2, 11, "999", 0),
	)
	wantCheck(t, Standard(), book(
		with("856", "zu"), with("245", "pnnbpcab"), to(9, with("440", "av")), to(4, with("830", "vav")), with("300", "cbabc"), with("020", "zzaa"), with("776", "wtwt"), to(1, with("110", "bab")), with("264", ""), with("264", "c"), with("520", ""),
	))
}

// P9.4: index and tag of the problems of each field of long records.
func TestCheckPlaces(t *testing.T) {
	for _, n := range []int{1, 2, 63, 64, 65, 300} {
		for i := 0; i < n; i += 1 + n/70 {
			fields := slices.Repeat([]api.Field{with("500", "a")}, n)
			fields[i] = to(1, with("246", "qbb"))
			wantCheck(t, Standard(), book(fields...), p(1, -1, "245", 0), p(4, i, "246", 'q'), p(6, i, "246", 'a'), p(7, i, "246", 0))
		}
	}
}

// P9.4: records that are not valid, and parts of records that do not matter to rules.
func TestCheckInvalid(t *testing.T) {
	good := with("245", "a")
	for _, n := range append([]int{-1, 0, 1, 4, 5}, far...) {
		wantCheck(t, Standard(), api.Record{ID: n, Version: n, Kind: n, Lang: fmt.Sprint(n), Fields: []api.Field{good}})
	}
	for _, ind := range []string{"", " ", "  ", "10", "ab", "100", "\xff\xff", "\u00e9", strings.Repeat("1", 1000)} {
		f := good
		f.Ind = ind
		wantCheck(t, Standard(), api.Record{Lang: ind, Fields: []api.Field{f}})
	}
	for _, value := range []string{"", "\xff", "\n", "\x00", "$a", strings.Repeat("x", 300)} {
		wantCheck(t, Standard(), book(api.Field{Tag: "245", Subs: []api.Sub{{Code: 'a', Value: value}, {Code: 'b', Value: value}, {Code: 'b', Value: value}}}))
	}
	if wrong := book(with("245", strings.Repeat("ab", 100))); record.Right(wrong) == api.OK {
		t.Errorf("a field of 200 subfields is valid")
	}
	many := slices.Repeat([]api.Field{with("500", "a")}, 1000)
	wantCheck(t, Standard(), book(append(many, good)...))
	wantCheck(t, Standard(), book(with("245", ""), with("245", ""), with("", ""), with("", "")), p(6, 0, "245", 'a'), p(3, 1, "245", 0), p(6, 1, "245", 'a'), p(2, 2, "", 0), p(2, 3, "", 0))
}

// P9.4: records with many fields and fields with many subfields; none of them takes long.
func TestCheckLong(t *testing.T) {
	const n = 200000
	rules := []api.TagRule{{Tag: "100", Codes: "a"}, {Tag: "245", Codes: "ab", Once: "a", Needs: "b"}, {Tag: "999", Must: true, Codes: "a"}}
	fields := slices.Repeat([]api.Field{with("500", "a"), with("100", "a")}, n)
	fields = append(fields, with("245", strings.Repeat("aq", n)+"b"))
	got := Check(rules, book(fields...))
	if len(got) != 1+n+n-1+n-1+n || got[0] != p(1, -1, "999", 0) || got[1] != p(2, 0, "500", 0) || got[2] != p(2, 2, "500", 0) || got[3] != p(3, 3, "100", 0) {
		t.Errorf("Check returns %s", shownProblems(got))
	}
	if last := got[len(got)-1]; last != p(4, 2*n, "245", 'q') {
		t.Errorf("the last problem is %s", shownProblems([]api.Problem{last}))
	}
	if Sound(rules, book(fields...)) {
		t.Errorf("Sound is true of a record with %d problems", len(got))
	}
}

// P9.4, P9.5: many records under many rules, against the definition.
func TestCheckRandom(t *testing.T) {
	random := rand.New(rand.NewSource(95))
	kinds := map[int]int{}
	for range 20000 {
		l, r := randomRules(t, random, 6), randomRecord(random)
		want := checkOf(l, r)
		for _, x := range want {
			kinds[x.Kind]++
		}
		wantCheck(t, l, r, want...)
	}
	for range 5000 {
		r := randomRecord(random)
		wantCheck(t, Standard(), r, checkOf(Standard(), r)...)
	}
	for kind := 1; kind <= 7; kind++ {
		if kinds[kind] < 500 {
			t.Errorf("%d problems of kind %d are few", kinds[kind], kind)
		}
	}
}

// P9.5: records with no problem, and with one problem of each kind.
func TestSound(t *testing.T) {
	rules := []api.TagRule{{Tag: "100", Codes: "ab", Once: "a", Auth: 1}, {Tag: "245", Must: true, Repeat: true, Codes: "abc", Once: "b", Needs: "a"}}
	title, name := with("245", "a"), with("100", "a")
	for _, r := range []api.Record{
		book(title), book(title, name), book(name, title), book(title, title), book(title, to(3, name)), book(with("245", "acacb"), with("100", "bab")), book(with("245", "cba"), with("100", "")),
	} {
		wantCheck(t, rules, r)
		if !Sound(rules, r) {
			t.Errorf("Sound is false for %s", shown(r))
		}
	}
	for kind, r := range map[int]api.Record{
		1: book(name),
		2: book(title, with("999", "a")),
		3: book(title, name, name),
		4: book(with("245", "ad")),
		5: book(with("245", "abb")),
		6: book(with("245", "b")),
		7: book(to(1, title)),
	} {
		if got := Check(rules, r); len(got) != 1 || got[0].Kind != kind {
			t.Errorf("Check is %s for %s", shownProblems(got), shown(r))
		}
		if Sound(rules, r) {
			t.Errorf("Sound is true for %s", shown(r))
		}
	}
	if !Sound(nil, api.Record{}) || !Sound(nil, book()) || Sound(nil, book(title)) || Sound(Standard(), book()) || !Sound(Standard(), book(title)) {
		t.Errorf("Sound is wrong without rules or without fields")
	}
}

// Rules that are not valid, and records of all kinds: nothing is promised but an end.
func TestCheckWrongRules(t *testing.T) {
	random := rand.New(rand.NewSource(99))
	var bytes []byte
	for c := range 256 {
		bytes = append(bytes, byte(c), byte(255-c))
	}
	tags := append(ruleTags(), oddTags...)
	parts := []string{"", "a", "aa", "za", "\xff\x00", "\u00e9", string(bytes), strings.Repeat("a", 10000)}
	for range 3000 {
		var l []api.TagRule
		for range random.Intn(6) {
			part := func() string { return parts[random.Intn(len(parts))] }
			l = append(l, api.TagRule{Tag: tags[random.Intn(len(tags))], Repeat: random.Intn(2) == 0, Must: random.Intn(2) == 0, Codes: part(), Once: part(), Needs: part(), Auth: far[random.Intn(len(far))]})
		}
		r := randomRecord(random)
		Check(l, r)
		Sound(l, r)
	}
	Check(make([]api.TagRule, 100000), book(with("", "a"), with("245", "a")))
}
