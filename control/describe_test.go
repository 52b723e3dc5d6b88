package control

import (
	"slices"
	"strings"

	"library/api"
	"library/heading"
)

// The description of the chapter, sentence by sentence, which shares no code with the package.

// kindOf returns the kind of a tag by the table of chapter 9.
func kindOf(tag string) int {
	switch tag {
	case "100", "600", "700":
		return 1
	case "110", "610", "710":
		return 2
	case "650", "651":
		return 3
	case "440", "830":
		return 4
	}
	return 0
}

// kinded lists the tags with a kind.
var kinded = []string{"100", "110", "440", "600", "610", "650", "651", "700", "710", "830"}

// kindless lists tags without a kind, and strings that are no tags.
var kindless = []string{"245", "490", "999", "", "65"}

// codesOf returns the codes of the headings of a kind.
func codesOf(kind int) []byte {
	return [][]byte{{}, {'a', 'd'}, {'a'}, {'a', 'x', 'y', 'z'}, {'a'}}[kind]
}

// headingOf returns the heading of a field as the definitions say.
func headingOf(f api.Field) string {
	kind := kindOf(f.Tag)
	var names, parts, dates []string
	for _, s := range f.Subs {
		if s.Code == 'a' {
			names = append(names, s.Value)
		}
		if s.Code == 'd' {
			dates = append(dates, s.Value)
		}
		if slices.Contains(codesOf(3), s.Code) {
			parts = append(parts, s.Value)
		}
	}
	switch {
	case kind == 1 && len(dates) == 0:
		return strings.Join(names, " ")
	case kind == 1:
		return strings.Join(names, " ") + ", " + dates[0]
	case kind == 3:
		return strings.Join(parts, "--")
	case kind == 0 || len(names) == 0:
		return ""
	}
	return names[0]
}

// putOf returns what P14.2 says of Put.
func putOf(f api.Field, s string) api.Field {
	kind := kindOf(f.Tag)
	if kind == 0 {
		return f
	}
	result := api.Field{Tag: f.Tag, Ind: f.Ind, Auth: f.Auth}
	add := func(code byte, value string) { result.Subs = append(result.Subs, api.Sub{Code: code, Value: value}) }
	n, err := heading.Name(s)
	switch {
	case kind == 3:
		for i, part := range heading.Parts(s) {
			add("ax"[min(i, 1)], part)
		}
	case kind == 1 && err == api.OK && n.Dates != "" && n.First == "":
		add('a', n.Last)
		add('d', n.Dates)
	case kind == 1 && err == api.OK && n.Dates != "":
		add('a', n.Last+", "+n.First)
		add('d', n.Dates)
	default:
		add('a', s)
	}
	for _, sub := range f.Subs {
		if !slices.Contains(codesOf(kind), sub.Code) {
			add(sub.Code, sub.Value)
		}
	}
	return result
}

// findOf returns the ID of the authority of a kind that has a heading, or 0.
func findOf(l []api.Authority, kind int, s string) int {
	for _, a := range l {
		for _, h := range slices.Concat([]string{a.Heading}, a.See) {
			if a.Kind == kind && heading.Norm(h) == heading.Norm(s) && heading.Norm(s) != "" {
				return a.ID
			}
		}
	}
	return 0
}

// linkOf returns what P14.3 says of Link.
func linkOf(l []api.Authority, r api.Record) api.Record {
	r = copyOf(r)
	for i, f := range r.Fields {
		if kindOf(f.Tag) != 0 && f.Auth == 0 {
			r.Fields[i].Auth = findOf(l, kindOf(f.Tag), headingOf(f))
		}
	}
	return r
}

// followOf returns what P14.4 says of Follow.
func followOf(l []api.Authority, r api.Record) api.Record {
	r = copyOf(r)
	for i, f := range r.Fields {
		for _, a := range l {
			if kindOf(f.Tag) != 0 && a.ID == f.Auth && a.Kind == kindOf(f.Tag) && a.Heading != headingOf(f) {
				r.Fields[i] = putOf(f, a.Heading)
			}
		}
	}
	return r
}

// looseOf returns what P14.5 says of Loose.
func looseOf(r api.Record) []int {
	var list []int
	for i := range r.Fields {
		if r.Fields[i].Auth == 0 && kindOf(r.Fields[i].Tag) > 0 {
			list = append(list, i)
		}
	}
	return list
}

// usesOf returns what P14.5 says of Uses.
func usesOf(l []api.Record, id int) []int {
	users := map[int]bool{}
	for _, r := range l {
		for _, f := range r.Fields {
			users[r.ID] = users[r.ID] || id >= 1 && f.Auth == id
		}
	}
	var list []int
	for user, is := range users {
		if is {
			list = append(list, user)
		}
	}
	slices.Sort(list)
	return list
}

// turnOf returns what P14.6 says of Turn.
func turnOf(l []api.Record, from, into int) []api.Record {
	l = copyOf(l)
	for i := range l {
		for j := range l[i].Fields {
			if f := &l[i].Fields[j]; from > 0 && f.Auth == from {
				f.Auth = into
			}
		}
	}
	return l
}
