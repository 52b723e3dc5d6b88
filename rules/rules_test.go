package rules

import (
	"fmt"
	"math"
	"math/rand"
	"slices"
	"strings"
	"testing"

	"library/api"
)

// allCodes are all characters of lists of codes, in their order.
const allCodes = "0123456789abcdefghijklmnopqrstuvwxyz"

// far are numbers that are far from all kinds and IDs; those near 2^32 and 2^63 are near again if they wrap around.
var far = []int{
	math.MinInt, math.MinInt + 1, math.MinInt + 4, math.MinInt32, -1 << 32, -1<<32 + 1, -1<<32 + 4, -10000, -256, -255, -252, -4, -2, 6, 256, 257, 260, 9999, 10000, 65536, 65537,
	math.MaxInt32, math.MaxInt32 + 1, 1 << 32, 1<<32 + 1, 1<<32 + 4, math.MaxInt - 1, math.MaxInt,
}

// oddTags are strings that are no tags, each for another reason.
var oddTags = []string{
	"", "2", "24", "2450", "02450", "0245", " 245", "245 ", "2 5", "   ", "-45", "+45", "2.5", "0x1", "1e1", "24a", "a45", "2a5", "abc", "ABC", "LDR", "24\x00", "\x00\x00\x00", "\xff\xff\xff", "24\n", "245\n", "245\x00", "\u0662\u0664\u0665", "\uff12\uff14\uff15", "2\uff14", "\u00e9", "\u00e91", "\u20ac", "000", "001", "008", "009", "00:", "0/9", "/00", "9:9", "99:", ":00",
}

// rule returns a rule that is valid if the tag is.
func rule(tag string) api.TagRule {
	return api.TagRule{Tag: tag, Repeat: true, Codes: "0az", Once: "a", Needs: "a", Auth: api.AuPerson}
}

// ruleTags returns tags of rules in ascending order; some differ in one digit alone.
func ruleTags() []string {
	list := []string{"010", "011", "019", "020", "099", "100", "101", "110", "111", "199", "200", "201", "210", "245", "246", "255", "345"}
	for n := 400; n < 950; n += 25 {
		list = append(list, fmt.Sprint(n))
	}
	return append(list, "998", "999")
}

// ruleList returns n rules; they are valid if there are not too many.
func ruleList(n int) []api.TagRule {
	var list []api.TagRule
	for i := range n {
		list = append(list, rule(fmt.Sprintf("%03d", 10+i*9)))
	}
	return list
}

// sub returns a subfield.
func sub(code byte) api.Sub { return api.Sub{Code: code, Value: "x"} }

// with returns a field with a tag and a subfield for each byte of codes.
func with(tag, codes string) api.Field {
	f := api.Field{Tag: tag, Ind: "10"}
	for i := range len(codes) {
		f.Subs = append(f.Subs, sub(codes[i]))
	}
	return f
}

// to returns a field that is linked to an authority.
func to(auth int, f api.Field) api.Field {
	f.Auth = auth
	return f
}

// book returns a record that is valid if its fields are.
func book(fields ...api.Field) api.Record {
	return api.Record{ID: 1, Version: 3, Kind: api.KdBook, Lang: "eng", Fields: fields}
}

// shownRules shows all parts of rules; it does not tell apart nil and empty lists.
func shownRules(l []api.TagRule) string {
	var b strings.Builder
	for _, r := range l {
		fmt.Fprintf(&b, "{%q repeat %v must %v codes %q once %q needs %q authority %d}", r.Tag, r.Repeat, r.Must, r.Codes, r.Once, r.Needs, r.Auth)
	}
	return short(b.String())
}

// shown shows a record as far as it matters to rules.
func shown(r api.Record) string {
	var b strings.Builder
	for _, f := range r.Fields {
		fmt.Fprintf(&b, "{%q", f.Tag)
		for _, s := range f.Subs {
			fmt.Fprintf(&b, " %q", s.Code)
		}
		fmt.Fprintf(&b, " authority %d}", f.Auth)
	}
	return short(b.String())
}

// short shortens what is shown.
func short(s string) string {
	if len(s) > 600 {
		return s[:600] + fmt.Sprintf(".. (%d bytes)", len(s))
	}
	return s
}

// roomyRules returns the same rules in new memory; there is room behind the end of the list, in which something stands.
func roomyRules(l []api.TagRule) []api.TagRule {
	list := append(make([]api.TagRule, 0, len(l)+3), l...)
	copy(list[len(list):cap(list)], []api.TagRule{rule("r00"), rule("o00"), rule("m00")})
	return list
}

// rulesKeeper returns what reports whether rules are still as they were, with all that stands behind the end of the list.
func rulesKeeper(l []api.TagRule) func() bool {
	before := slices.Clone(l[:cap(l)])
	return func() bool { return slices.Equal(l[:cap(l)], before) }
}

// roomy returns the same record in new memory: its lists have room behind their ends, in which something stands.
func roomy(r api.Record) api.Record {
	fields := make([]api.Field, 0, len(r.Fields)+3)
	for _, f := range r.Fields {
		subs := append(make([]api.Sub, 0, len(f.Subs)+3), f.Subs...)
		copy(subs[len(subs):cap(subs)], []api.Sub{sub('r'), sub('o'), sub('m')})
		f.Subs = subs
		fields = append(fields, f)
	}
	copy(fields[len(fields):cap(fields)], []api.Field{with("245", "r"), with("245", "o"), with("245", "m")})
	r.Fields = fields
	return r
}

// allOf shows all parts of a record, and all that stands behind the ends of its lists.
func allOf(r api.Record) string {
	fields := slices.Clone(r.Fields[:cap(r.Fields)])
	for i, f := range fields {
		fields[i].Subs = f.Subs[:cap(f.Subs)]
	}
	return fmt.Sprintf("%+v, %d fields %+v", r, len(r.Fields), fields)
}

// keeper returns what reports whether a record is still as it was, with all that stands behind the ends of its lists.
func keeper(r api.Record) func() bool {
	before := allOf(r)
	return func() bool { return allOf(r) == before }
}

// randomCodes returns a list of codes; it may be empty.
func randomCodes(random *rand.Rand, from string) string {
	var b strings.Builder
	for i := range len(from) {
		if random.Intn(3) == 0 {
			b.WriteByte(from[i])
		}
	}
	return b.String()
}

// randomRules returns up to n valid rules, whose tags and codes are few.
func randomRules(t *testing.T, random *rand.Rand, n int) []api.TagRule {
	t.Helper()
	var list []api.TagRule
	for _, tag := range []string{"010", "100", "245", "500", "650", "999"} {
		if len(list) == n || random.Intn(3) == 0 {
			continue
		}
		r := api.TagRule{Tag: tag, Repeat: random.Intn(2) == 0, Must: random.Intn(3) == 0, Codes: randomCodes(random, "09abcz"), Auth: max(random.Intn(8)-3, 0)}
		if r.Codes == "" {
			r.Codes = "a"
		}
		r.Once, r.Needs = randomCodes(random, r.Codes), randomCodes(random, r.Codes)
		list = append(list, r)
	}
	if err := Right(list); err != api.OK {
		t.Fatalf("Right is %d for %s", int(err), shownRules(list))
	}
	return list
}

// randomRecord returns a record of up to eight fields; most of its tags and codes are those of randomRules.
func randomRecord(random *rand.Rand) api.Record {
	tags := []string{"010", "100", "245", "500", "650", "999", "011", "998", "", "24", "2450"}
	codes := "09abczAaabcz \x00\xff1"
	var fields []api.Field
	for range random.Intn(9) {
		f := with(tags[random.Intn(len(tags))], "")
		if random.Intn(4) > 0 {
			f.Tag = tags[random.Intn(6)]
		}
		for range random.Intn(7) {
			f.Subs = append(f.Subs, sub(codes[random.Intn(len(codes))]))
		}
		fields = append(fields, to([]int{0, 0, 1, 3, 9999, -1, 10000}[random.Intn(7)], f))
	}
	return book(fields...)
}
