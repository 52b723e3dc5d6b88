package merge

import (
	"fmt"
	"slices"

	"library/api"
	"library/record"
)

// The description of the chapter, sentence by sentence, which shares no code with the package.

// rightOf returns what P16.1 says of Right.
func rightOf(p api.Parting) api.Errno {
	if !(p.Into >= 1 && p.Into <= 9999) {
		return api.ErrRange
	}
	if record.Right(p.From) != api.OK {
		return record.Right(p.From)
	}
	if p.From.ID == 0 {
		return api.ErrRange
	}
	if p.From.ID == p.Into {
		return api.ErrArg
	}
	indices := map[int]bool{}
	for i := range p.From.Fields {
		indices[i] = true
	}
	for _, i := range p.Taken {
		if !indices[i] {
			return api.ErrRange
		}
	}
	once := slices.Clone(p.Taken)
	slices.Sort(once)
	if !slices.Equal(slices.Compact(once), p.Taken) {
		return api.ErrTwice
	}
	return api.OK
}

// standardOf returns what P16.2 says of Standard: the tags, and what is kept of each.
func standardOf() ([]string, []int) {
	return []string{"100", "110", "245", "250", "260", "264", "300", "490", "830", "856"}, []int{2, 2, 2, 2, 2, 2, 2, 2, 2, 0}
}

// howOf returns what P16.2 says of How.
func howOf(l []api.Keep, tag string) int {
	kept := map[string]int{}
	for i := len(l); i > 0; i-- {
		kept[l[i-1].Tag] = l[i-1].How
	}
	if how, ok := kept[tag]; ok {
		return how
	}
	return 1
}

// shown returns a field as a string; two fields have the same one exactly if they are equal in all parts.
func shown(f api.Field) string { return fmt.Sprintf("%q %q %d %q", f.Tag, f.Ind, f.Auth, f.Subs) }

// merged is what Merge returns.
type merged struct {
	Record  api.Record
	Parting api.Parting
	Err     api.Errno
}

// mergeOf returns what P16.3 says of Merge.
func mergeOf(into, from api.Record, l []api.Keep) merged {
	for _, r := range []api.Record{into, from} {
		if err := record.Right(r); err != api.OK {
			return merged{Err: err}
		}
	}
	switch {
	case into.ID*from.ID == 0:
		return merged{Err: api.ErrRange}
	case into.ID == from.ID:
		return merged{Err: api.ErrArg}
	case into.Version != from.Version:
		return merged{Err: api.ErrVersion}
	}
	fields, tags := map[string]bool{}, map[string]bool{}
	for _, f := range into.Fields {
		fields[shown(f)], tags[f.Tag] = true, true
	}
	result := merged{Record: copyOf(into), Parting: api.Parting{Into: into.ID, From: copyOf(from)}}
	for i, f := range from.Fields {
		how := howOf(l, f.Tag)
		if how == 1 && !fields[shown(f)] || how == 2 && !tags[f.Tag] {
			fields[shown(f)] = true
			result.Record.Fields = append(result.Record.Fields, copyOf(f))
			result.Parting.Taken = append(result.Parting.Taken, i)
		}
	}
	if len(result.Record.Fields) > 64 {
		return merged{Err: api.ErrFull}
	}
	return result
}

// split is what Split returns.
type split struct {
	Into, From api.Record
	Err        api.Errno
}

// partedOf returns what P16.4 and P16.5 say of Split and Whole. Of equal fields, as many are removed as were taken, the last ones.
func partedOf(r api.Record, p api.Parting) (split, bool) {
	if err := rightOf(p); err != api.OK {
		return split{Err: err}, false
	}
	if r.ID != p.Into {
		return split{Err: api.ErrNone}, false
	}
	taken := map[string]int{}
	for _, i := range p.Taken {
		taken[shown(p.From.Fields[i])]++
	}
	rest := copyOf(r)
	rest.Fields = nil
	for i := len(r.Fields); i > 0; i-- {
		f := r.Fields[i-1]
		if s := shown(f); taken[s] > 0 {
			taken[s]--
		} else {
			rest.Fields = append(rest.Fields, copyOf(f))
		}
	}
	slices.Reverse(rest.Fields)
	left := 0
	for _, n := range taken {
		left += n
	}
	return split{Into: rest, From: copyOf(p.From)}, left == 0
}
