package rules

import (
	"slices"
	"strconv"
	"strings"
	"testing"

	"library/api"
)

// document is the table of the standard rules, as the document has it.
const document = `
| 020 | R | az | - | - | 0 |
| 022 | R | a | - | - | 0 |
| 041 | R | a | - | - | 0 |
| 100 | | 4ad | a | a | 1 |
| 110 | | ab | a | a | 2 |
| 245 | M | abcnp | ac | a | 0 |
| 246 | R | ab | a | a | 0 |
| 250 | | ab | - | - | 0 |
| 260 | R | abc | - | - | 0 |
| 264 | R | abc | - | - | 0 |
| 300 | R | abc | - | - | 0 |
| 440 | R | av | a | a | 4 |
| 490 | R | av | a | a | 0 |
| 500 | R | a | a | a | 0 |
| 520 | R | a | - | - | 0 |
| 600 | R | adxyz | a | a | 1 |
| 610 | R | abxyz | a | a | 2 |
| 650 | R | axyz | a | a | 3 |
| 651 | R | axyz | a | a | 3 |
| 700 | R | 4ad | a | a | 1 |
| 710 | R | ab | a | a | 2 |
| 776 | R | tw | - | - | 0 |
| 787 | R | tw | - | - | 0 |
| 830 | R | av | a | a | 4 |
| 856 | R | uz | - | - | 0 |
`

// documentRules returns the rules of the document's table.
func documentRules() []api.TagRule {
	var list []api.TagRule
	for _, line := range strings.Split(strings.TrimSpace(document), "\n") {
		cells := strings.Split(line, "|")[1:7]
		for i, c := range cells {
			cells[i] = strings.ReplaceAll(strings.TrimSpace(c), "-", "")
		}
		auth, _ := strconv.Atoi(cells[5])
		list = append(list, api.TagRule{
			Tag: cells[0], Repeat: strings.Contains(cells[1], "R"), Must: strings.Contains(cells[1], "M"),
			Codes: cells[2], Once: cells[3], Needs: cells[4], Auth: auth,
		})
	}
	return list
}

// wantStandard compares Standard with the document's table.
func wantStandard(t *testing.T) {
	t.Helper()
	got, want := Standard(), documentRules()
	if len(got) != len(want) {
		t.Errorf("Standard has %d rules, not %d", len(got), len(want))
	}
	for i := range min(len(got), len(want)) {
		if got[i] != want[i] {
			t.Errorf("rule %d of Standard is %s, not %s", i, shownRules(got[i:i+1]), shownRules(want[i:i+1]))
		}
	}
}

// P9.1: every rule of the table with each of its parts, their order and their number.
func TestStandard(t *testing.T) {
	if n := len(documentRules()); n != 25 {
		t.Fatalf("the table of the document has %d rules, not 25", n)
	}
	wantStandard(t)
}

// P9.1: a few parts, written out.
func TestStandardParts(t *testing.T) {
	var tags, must, single []string
	auths := map[int]int{}
	for _, r := range Standard() {
		tags = append(tags, r.Tag)
		if r.Must {
			must = append(must, r.Tag)
		}
		if !r.Repeat {
			single = append(single, r.Tag)
		}
		auths[r.Auth]++
	}
	if got := strings.Join(tags, " "); got != "020 022 041 100 110 245 246 250 260 264 300 440 490 500 520 600 610 650 651 700 710 776 787 830 856" {
		t.Errorf("the tags are %s", got)
	}
	if got := strings.Join(must, " "); got != "245" {
		t.Errorf("the tags with Must are %s", got)
	}
	if got := strings.Join(single, " "); got != "100 110 245 250" {
		t.Errorf("the tags without Repeat are %s", got)
	}
	if auths[0] != 15 || auths[api.AuPerson] != 3 || auths[api.AuBody] != 3 || auths[api.AuSubject] != 2 || auths[api.AuSeries] != 2 {
		t.Errorf("the kinds of authorities are %v", auths)
	}
}

// P9.1: the standard rules are valid.
func TestStandardValid(t *testing.T) {
	if err := Right(Standard()); err != api.OK {
		t.Errorf("Right of Standard is %d", int(err))
	}
	for i := range Standard() {
		if err := Right(Standard()[i:]); err != api.OK {
			t.Errorf("Right of Standard from rule %d on is %d", i, int(err))
		}
	}
}

// P9.1: what a caller does to the list that Standard returned does not show in what it returns later, nor in another list.
func TestStandardChanged(t *testing.T) {
	kept := Standard()
	for i := range Standard() {
		for _, change := range []func(r *api.TagRule){
			func(r *api.TagRule) { r.Tag = "999" },
			func(r *api.TagRule) { r.Repeat = !r.Repeat },
			func(r *api.TagRule) { r.Must = !r.Must },
			func(r *api.TagRule) { r.Codes = "q" },
			func(r *api.TagRule) { r.Once = "q" },
			func(r *api.TagRule) { r.Needs = "q" },
			func(r *api.TagRule) { r.Auth = 9 },
			func(r *api.TagRule) { *r = api.TagRule{} },
		} {
			change(&Standard()[i])
			wantStandard(t)
		}
	}
	list := Standard()
	slices.Reverse(list)
	wantStandard(t)
	clear(list)
	wantStandard(t)
	list = append(Standard()[:3], rule("999"))
	wantStandard(t)
	list = Standard()
	room := list[:cap(list)]
	for i := range room {
		room[i] = rule("999")
	}
	wantStandard(t)
	if !slices.Equal(kept, documentRules()) {
		t.Errorf("a change of one list shows in another one: %s", shownRules(kept))
	}
}
