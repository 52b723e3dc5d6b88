package match

import (
	"maps"
	"regexp"
	"slices"
	"strings"

	"library/api"
	"library/barcode"
	"library/text"
)

// The description of the chapter, sentence by sentence, which shares no code with the package.

// The shapes of tags, and of values with a run of exactly four digits.
var (
	tagShape  = regexp.MustCompile(`\A(?:0[1-9]|[1-9][0-9])[0-9]\z`)
	yearShape = regexp.MustCompile(`(?:\A|[^0-9])([0-9]{4})(?:[^0-9]|\z)`)
)

// allCodes are the codes that a match key can have.
const allCodes = "abcdefghijklmnopqrstuvwxyz0123456789"

// rightOf returns what P15.1 says of Right.
func rightOf(m api.MatchRule) api.Errno {
	if len(m.Keys) == 0 {
		return api.ErrMissing
	}
	if len(m.Keys) > 8 {
		return api.ErrFull
	}
	for _, k := range m.Keys {
		if !tagShape.MatchString(k.Tag) {
			return api.ErrTag
		}
		if !strings.Contains(allCodes, string([]byte{k.Code})) {
			return api.ErrArg
		}
		if !slices.Contains([]int{0, 1, 2, 3, 4}, k.Norm) {
			return api.ErrRange
		}
		if !(k.Weight >= 1 && k.Weight <= 100) {
			return api.ErrRange
		}
	}
	if !(m.Need >= 1 && m.Need <= 800) {
		return api.ErrRange
	}
	return api.OK
}

// wordsOf returns the words of a value, joined by one blank.
func wordsOf(value string) string {
	return strings.Join(strings.FieldsFunc(text.Fold(value), func(c rune) bool {
		return !strings.ContainsRune("abcdefghijklmnopqrstuvwxyz0123456789", c) && c < 0x100
	}), " ")
}

// normOf returns what a norm makes of a value, "" if nothing.
func normOf(value string, norm int) string {
	switch norm {
	case 1:
		return wordsOf(value)
	case 2:
		if number, err := barcode.Isbn(value); err == api.OK {
			return number
		}
		return ""
	case 3:
		characters := []rune(wordsOf(value))
		return string(characters[:min(4, len(characters))])
	case 4:
		if found := yearShape.FindStringSubmatch(value); found != nil {
			return found[1]
		}
		return ""
	}
	return value
}

// keySet returns the keys of a record as a set.
func keySet(k api.MatchKey, r api.Record) map[string]bool {
	set := map[string]bool{}
	for _, f := range r.Fields {
		for _, s := range f.Subs {
			if f.Tag == k.Tag && s.Code == k.Code {
				set[normOf(s.Value, k.Norm)] = true
			}
		}
	}
	delete(set, "")
	return set
}

// keysOf returns what P15.3 says of Keys.
func keysOf(k api.MatchKey, r api.Record) []string { return slices.Sorted(maps.Keys(keySet(k, r))) }

// scoreOf returns what P15.4 says of Score.
func scoreOf(m api.MatchRule, a, b api.Record) int {
	sum := 0
	for _, k := range m.Keys {
		common := keySet(k, a)
		maps.DeleteFunc(common, func(s string, _ bool) bool { return !keySet(k, b)[s] })
		if len(common) > 0 {
			sum += k.Weight
		}
	}
	return sum
}

// findOf returns what P15.5 says of Find, for lists of records with different IDs.
func findOf(m api.MatchRule, l []api.Record, r api.Record) []int {
	byScore := map[int][]int{}
	for _, other := range l {
		if other.ID != r.ID {
			s := scoreOf(m, other, r)
			byScore[s] = append(byScore[s], other.ID)
		}
	}
	var list []int
	for s := 800; s >= m.Need; s-- {
		slices.Sort(byScore[s])
		list = append(list, byScore[s]...)
	}
	return list
}

// pairsOf returns what P15.6 says of Pairs, for lists of records with different IDs.
func pairsOf(m api.MatchRule, l []api.Record) [][2]int {
	var list [][2]int
	for _, a := range l {
		for _, b := range l {
			if a.ID < b.ID && scoreOf(m, b, a) >= m.Need {
				list = append(list, [2]int{a.ID, b.ID})
			}
		}
	}
	slices.SortFunc(list, func(p, q [2]int) int { return slices.Compare(p[:], q[:]) })
	return list
}
