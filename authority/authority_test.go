package authority

import (
	"fmt"
	"math/rand"
	"reflect"
	"slices"
	"strings"
	"testing"
	"time"

	"library/api"
	"library/heading"
	"library/text"
)

// short shortens what is shown.
func short(v any) string {
	s := fmt.Sprintf("%+q", v)
	if _, ok := v.([]int); ok {
		s = fmt.Sprint(v)
	}
	if len(s) > 600 {
		return s[:600] + fmt.Sprintf(".. (%d bytes)", len(s))
	}
	return s
}

// shown shows a file, a line for each authority.
func shown(l []api.Authority) string {
	var b strings.Builder
	for _, a := range l {
		fmt.Fprintf(&b, "\n\t%d kind %d %q see %q above %v", a.ID, a.Kind, a.Heading, a.See, a.Above)
	}
	if b.Len() > 3000 {
		return b.String()[:3000] + ".."
	}
	return b.String()
}

// equal compares authorities; empty and nil lists are equal.
func equal(a, b api.Authority) bool {
	return a.ID == b.ID && a.Kind == b.Kind && a.Heading == b.Heading && slices.Equal(a.See, b.See) && slices.Equal(a.Above, b.Above)
}

// equalFiles compares files.
func equalFiles(a, b []api.Authority) bool { return slices.EqualFunc(a, b, equal) }

// auth returns a subject without variants.
func auth(id int, s string, above ...int) api.Authority {
	return api.Authority{ID: id, Kind: api.AuSubject, Heading: s, Above: above}
}

// seen returns an authority with other variants.
func seen(a api.Authority, see ...string) api.Authority {
	a.See = see
	return a
}

// kinded returns an authority with another kind.
func kinded(a api.Authority, kind int) api.Authority {
	a.Kind = kind
	return a
}

// roomy returns a copy of a file whose lists all have room behind their ends, filled with something.
func roomy(l []api.Authority) []api.Authority {
	file := make([]api.Authority, len(l), len(l)+3)
	for i, a := range l {
		a.See = append(make([]string, 0, len(a.See)+12), a.See...)
		a.Above = append(make([]int, 0, len(a.Above)+6), a.Above...)
		for j := range a.See[len(a.See):cap(a.See)] {
			a.See[len(a.See):cap(a.See)][j] = fmt.Sprint("behind ", j)
		}
		for j := range a.Above[len(a.Above):cap(a.Above)] {
			a.Above[len(a.Above):cap(a.Above)][j] = -1 - j
		}
		file[i] = a
	}
	for j := range file[len(l):cap(file)] {
		file[len(l):cap(file)][j] = auth(-7, "behind")
	}
	return file
}

// copied returns a file with lists of its own.
func copied(l []api.Authority) []api.Authority {
	file := make([]api.Authority, len(l))
	for i, a := range l {
		file[i] = a
		file[i].See = append([]string(nil), a.See...)
		file[i].Above = append([]int(nil), a.Above...)
	}
	return file
}

// deep returns a copy of a file with all that stands behind the ends of its lists.
func deep(l []api.Authority) []api.Authority {
	file := slices.Clone(l[:cap(l)])
	for i := range file {
		file[i].See = slices.Clone(file[i].See[:cap(file[i].See)])
		file[i].Above = slices.Clone(file[i].Above[:cap(file[i].Above)])
	}
	return file
}

// scribble changes everything that can be reached from a file.
func scribble(l []api.Authority) {
	l = l[:cap(l)]
	for i := range l {
		scribbleOne(&l[i])
	}
}

// scribbleOne changes everything that can be reached from an authority.
func scribbleOne(a *api.Authority) {
	see, above := a.See[:cap(a.See)], a.Above[:cap(a.Above)]
	for j := range see {
		see[j] = "scribbled"
	}
	for j := range above {
		above[j] = -99
	}
	*a = api.Authority{ID: -99, Kind: -99, Heading: "scribbled"}
}

// unchanged runs a call on a file with room behind its lists, twice, and checks that the file stays as it is whatever the caller does to the first result, and that the second result is like the first one.
func unchanged(t *testing.T, l []api.Authority, call func(l []api.Authority) ([]api.Authority, api.Errno)) ([]api.Authority, api.Errno) {
	t.Helper()
	file := roomy(l)
	before := deep(file)
	first, err := call(file)
	if !reflect.DeepEqual(deep(file), before) {
		t.Errorf("the call changes its argument%s\nto%s", shown(before), shown(file))
	}
	if err != api.OK && len(first) > 0 {
		t.Errorf("error %d with a result%s", err, shown(first))
	}
	kept := copied(first)
	// What is done to one list of the result shows in no other one.
	for i := range first {
		scribbleOne(&first[i])
		if !equalFiles(first[i+1:], kept[i+1:]) {
			t.Errorf("the lists of the result share memory:%s", shown(kept))
		}
	}
	scribble(first)
	if !reflect.DeepEqual(deep(file), before) {
		t.Errorf("the result shares memory with the argument%s\nwhich becomes%s", shown(before), shown(file))
	}
	second, again := call(file)
	if again != err || !equalFiles(second, kept) {
		t.Errorf("the second result is %d%s\nthe first one was %d%s", again, shown(second), err, shown(kept))
	}
	return second, err
}

// wantRight checks Right, and that it leaves the file as it is.
func wantRight(t *testing.T, l []api.Authority, want api.Errno) {
	t.Helper()
	file := roomy(l)
	before := deep(file)
	if got := Right(file); got != want {
		t.Errorf("Right is %d, want %d, for%s", got, want, shown(l))
	}
	if !reflect.DeepEqual(deep(file), before) {
		t.Errorf("Right changes its argument%s", shown(before))
	}
}

// wantFile checks the file and the error that a call returns; a file must be right.
func wantFile(t *testing.T, name string, l []api.Authority, call func([]api.Authority) ([]api.Authority, api.Errno), want []api.Authority, wantErr api.Errno) {
	t.Helper()
	got, err := unchanged(t, l, call)
	if err != wantErr || !equalFiles(got, want) {
		t.Errorf("%s of%s\nis %d%s\nwant %d%s", name, shown(l), err, shown(got), wantErr, shown(want))
	}
	if err == api.OK && Right(got) != api.OK {
		t.Errorf("%s of%s\nis not right (%d):%s", name, shown(l), Right(got), shown(got))
	}
}

// wantAdd checks Add, that it takes nothing of the authority for itself, and that Remove undoes it.
func wantAdd(t *testing.T, l []api.Authority, a api.Authority, want []api.Authority, wantErr api.Errno) {
	t.Helper()
	given := roomy([]api.Authority{a})
	before := deep(given)
	call := func(l []api.Authority) ([]api.Authority, api.Errno) { return Add(l, given[0]) }
	wantFile(t, "Add "+short(a), l, call, want, wantErr)
	if !reflect.DeepEqual(deep(given), before) {
		t.Errorf("Add changes the authority %s", short(a))
	}
	if wantErr == api.OK {
		wantRemove(t, want, a.ID, l, api.OK)
	}
}

// wantRemove checks Remove.
func wantRemove(t *testing.T, l []api.Authority, id int, want []api.Authority, wantErr api.Errno) {
	t.Helper()
	call := func(l []api.Authority) ([]api.Authority, api.Errno) { return Remove(l, id) }
	wantFile(t, fmt.Sprint("Remove ", id), l, call, want, wantErr)
}

// wantRename checks Rename, and that the old and the new heading lead to the authority.
func wantRename(t *testing.T, l []api.Authority, id int, s string, want []api.Authority, wantErr api.Errno) {
	t.Helper()
	call := func(l []api.Authority) ([]api.Authority, api.Errno) { return Rename(l, id, s) }
	wantFile(t, fmt.Sprint("Rename ", id, " to ", short(s)), l, call, want, wantErr)
	if wantErr != api.OK {
		return
	}
	old := l[slices.IndexFunc(l, func(a api.Authority) bool { return a.ID == id })]
	wantFind(t, want, old.Kind, s, id, true, true)
	wantFind(t, want, old.Kind, old.Heading, id, heading.Same(old.Heading, s), true)
}

// wantMerge checks Merge, and that all headings of both lead to the first one.
func wantMerge(t *testing.T, l []api.Authority, into, from int, want []api.Authority, wantErr api.Errno) {
	t.Helper()
	call := func(l []api.Authority) ([]api.Authority, api.Errno) { return Merge(l, into, from) }
	wantFile(t, fmt.Sprint("Merge into ", into, " from ", from), l, call, want, wantErr)
	if wantErr != api.OK {
		return
	}
	for _, a := range l {
		if a.ID == into || a.ID == from {
			wantFind(t, want, a.Kind, a.Heading, into, a.ID == into, true)
			for _, s := range a.See {
				wantFind(t, want, a.Kind, s, into, false, true)
			}
		}
	}
}

// wantSetAbove checks SetAbove, and that it takes nothing of the list for itself.
func wantSetAbove(t *testing.T, l []api.Authority, id int, above []int, want []api.Authority, wantErr api.Errno) {
	t.Helper()
	given := append(make([]int, 0, len(above)+2), above...)
	call := func(l []api.Authority) ([]api.Authority, api.Errno) { return SetAbove(l, id, given) }
	wantFile(t, fmt.Sprint("SetAbove ", id, " to ", short(above)), l, call, want, wantErr)
	if !slices.Equal(given, above) || !slices.Equal(given[len(given):cap(given)], []int{0, 0}) {
		t.Errorf("SetAbove changes the list %s", short(above))
	}
}

// wantGet checks Get.
func wantGet(t *testing.T, l []api.Authority, id int, want api.Authority, wantOK bool) {
	t.Helper()
	file := roomy(l)
	before := deep(file)
	for range 2 {
		got, ok := Get(file, id)
		if ok != wantOK || !equal(got, want) {
			t.Errorf("Get %d of%s\nis %t, %s, want %t, %s", id, shown(l), ok, short(got), wantOK, short(want))
		}
		scribbleOne(&got)
		if !reflect.DeepEqual(deep(file), before) {
			t.Errorf("what Get returns shares memory with the file%s", shown(l))
		}
	}
}

// wantFind checks Find.
func wantFind(t *testing.T, l []api.Authority, kind int, s string, id int, preferred, ok bool) {
	t.Helper()
	file := roomy(l)
	before := deep(file)
	if i, p, o := Find(file, kind, s); i != id || p != preferred || o != ok {
		t.Errorf("Find of kind %d, %s in%s\nis %d, %t, %t, want %d, %t, %t", kind, short(s), shown(l), i, p, o, id, preferred, ok)
	}
	if !reflect.DeepEqual(deep(file), before) {
		t.Errorf("Find changes the file%s", shown(l))
	}
}

// wantWays checks Above and Below of an authority.
func wantWays(t *testing.T, l []api.Authority, id int, above, below []int) {
	t.Helper()
	file := roomy(l)
	before := deep(file)
	for range 2 {
		up, down := Above(file, id), Below(file, id)
		if !slices.Equal(up, above) {
			t.Errorf("Above of %d in%s\nis %v, want %v", id, shown(l), up, above)
		}
		if !slices.Equal(down, below) {
			t.Errorf("Below of %d in%s\nis %v, want %v", id, shown(l), down, below)
		}
		for _, list := range [][]int{up, down} {
			list = list[:cap(list)]
			for i := range list {
				list[i] = -99
			}
		}
		if !reflect.DeepEqual(deep(file), before) {
			t.Errorf("Above or Below changes the file, or shares memory with it:%s", shown(l))
		}
	}
}

// within checks that a call ends in good time.
func within(t *testing.T, name string, call func()) {
	t.Helper()
	start := time.Now()
	call()
	if d := time.Since(start); d > 10*time.Second {
		t.Errorf("%s takes %s", name, d)
	}
}

// example returns the file of the chapter's examples.
func example() []api.Authority {
	return []api.Authority{auth(1, "Animals"), seen(auth(2, "Dogs", 1), "Hounds")}
}

// The chapter's examples.
func TestExamples(t *testing.T) {
	wantRight(t, example(), api.OK)
	wantFind(t, example(), api.AuSubject, "hounds", 2, false, true)
	wantFind(t, example(), api.AuSubject, "DOGS", 2, true, true)
	wantRename(t, example(), 2, "Hounds", []api.Authority{auth(1, "Animals"), seen(auth(2, "Hounds", 1), "Dogs")}, api.OK)
	wantRemove(t, example(), 1, nil, api.ErrUsed)
	wantSetAbove(t, example(), 1, []int{2}, nil, api.ErrLoop)
	wantWays(t, example(), 2, []int{1}, nil)
	wantWays(t, example(), 1, nil, []int{2})
	wantAdd(t, example(), auth(3, "dogs"), nil, api.ErrTwice)
}

// The description of the chapter, sentence by sentence, which shares no code with the package.

// sameNorm reports whether two headings have the same Norm.
func sameNorm(a, b string) bool { return heading.Norm(a) == heading.Norm(b) }

// formOf returns ErrForm or ErrLong for a heading of an authority of a kind, as P13.1 says.
func formOf(s string, kind int) api.Errno {
	if !text.Valid(s) || text.Clean(s) != s || heading.Norm(s) == "" {
		return api.ErrForm
	}
	joined := ""
	for i, part := range heading.Parts(s) {
		if i > 0 {
			joined += "--"
		}
		joined += part
	}
	if kind == api.AuSubject && joined != s {
		return api.ErrForm
	}
	if len(s) > 200 || len(heading.Parts(s)) > 4 {
		return api.ErrLong
	}
	return api.OK
}

// eachOf returns the first error of the second group.
func eachOf(l []api.Authority) api.Errno {
	for i, a := range l {
		if a.ID < 1 || a.ID > 9999 {
			return api.ErrRange
		}
		if i > 0 && a.ID <= l[i-1].ID {
			return api.ErrTwice
		}
		if !slices.Contains([]int{1, 2, 3, 4}, a.Kind) {
			return api.ErrArg
		}
		if e := formOf(a.Heading, a.Kind); e != api.OK {
			return e
		}
		for _, s := range a.See {
			if e := formOf(s, a.Kind); e != api.OK {
				return e
			}
		}
		if len(a.See) > 8 {
			return api.ErrFull
		}
	}
	return api.OK
}

// all returns the headings of an authority.
func all(a api.Authority) []string { return slices.Concat([]string{a.Heading}, a.See) }

// twiceOf reports whether two headings of authorities of the same kind have the same Norm.
func twiceOf(l []api.Authority) bool {
	type owned struct {
		kind int
		norm string
	}
	var list []owned
	for _, a := range l {
		for _, s := range all(a) {
			list = append(list, owned{a.Kind, heading.Norm(s)})
		}
	}
	slices.SortFunc(list, func(x, y owned) int {
		if x.kind != y.kind {
			return x.kind - y.kind
		}
		return strings.Compare(x.norm, y.norm)
	})
	for i := 1; i < len(list); i++ {
		if list[i] == list[i-1] {
			return true
		}
	}
	return false
}

// aboveOf returns the first error of the fourth group.
func aboveOf(l []api.Authority) api.Errno {
	for _, a := range l {
		if len(a.Above) > 4 {
			return api.ErrFull
		}
		for i := range a.Above {
			for j := range i {
				if a.Above[j] >= a.Above[i] {
					return api.ErrTwice
				}
			}
		}
		for _, id := range a.Above {
			if !slices.ContainsFunc(l, func(b api.Authority) bool { return b.ID == id && b.Kind == a.Kind }) {
				return api.ErrNone
			}
		}
	}
	return api.OK
}

// closure returns, for all pairs of authorities by their places, whether the second one is above the first one.
func closure(l []api.Authority) [][]bool {
	over := make([][]bool, len(l))
	for i, a := range l {
		over[i] = make([]bool, len(l))
		for j, b := range l {
			over[i][j] = slices.Contains(a.Above, b.ID)
		}
	}
	for k := range l {
		for i := range l {
			for j := range l {
				over[i][j] = over[i][j] || over[i][k] && over[k][j]
			}
		}
	}
	return over
}

// rightOf returns the error that P13.1 describes.
func rightOf(l []api.Authority) api.Errno {
	if len(l) > 64 {
		return api.ErrFull
	}
	if e := eachOf(l); e != api.OK {
		return e
	}
	if twiceOf(l) {
		return api.ErrTwice
	}
	if e := aboveOf(l); e != api.OK {
		return e
	}
	over := closure(l)
	for i := range l {
		if over[i][i] {
			return api.ErrLoop
		}
	}
	return api.OK
}

// valued returns a file without an error, and nothing with one.
func valued(l []api.Authority) ([]api.Authority, api.Errno) {
	if e := rightOf(l); e != api.OK {
		return nil, e
	}
	return l, api.OK
}

// indexOf returns the place of an authority, or -1.
func indexOf(l []api.Authority, id int) int {
	return slices.IndexFunc(l, func(a api.Authority) bool { return a.ID == id })
}

// findOf returns what P13.2 says of Find.
func findOf(l []api.Authority, kind int, s string) (int, bool, bool) {
	for _, a := range l {
		for i, h := range all(a) {
			if a.Kind == kind && heading.Norm(s) != "" && sameNorm(h, s) {
				return a.ID, i == 0, true
			}
		}
	}
	return 0, false, false
}

// addOf returns what P13.3 says of Add.
func addOf(l []api.Authority, a api.Authority) ([]api.Authority, api.Errno) {
	if indexOf(l, a.ID) >= 0 {
		return nil, api.ErrTwice
	}
	file := append(slices.Clone(l), a)
	slices.SortFunc(file, func(x, y api.Authority) int {
		if x.ID < y.ID {
			return -1
		}
		return 1
	})
	return valued(file)
}

// removeOf returns what P13.3 says of Remove.
func removeOf(l []api.Authority, id int) ([]api.Authority, api.Errno) {
	if indexOf(l, id) < 0 {
		return nil, api.ErrNone
	}
	var file []api.Authority
	for _, a := range l {
		if slices.Contains(a.Above, id) {
			return nil, api.ErrUsed
		}
		if a.ID != id {
			file = append(file, a)
		}
	}
	return file, api.OK
}

// renameOf returns what P13.4 says.
func renameOf(l []api.Authority, id int, s string) ([]api.Authority, api.Errno) {
	i := indexOf(l, id)
	if i < 0 {
		return nil, api.ErrNone
	}
	file := slices.Clone(l)
	var see []string
	for _, h := range file[i].See {
		if !sameNorm(h, s) {
			see = append(see, h)
		}
	}
	if !sameNorm(file[i].Heading, s) {
		see = append(see, file[i].Heading)
	}
	file[i].Heading, file[i].See = s, see
	return valued(file)
}

// mergeOf returns what P13.5 says.
func mergeOf(l []api.Authority, into, from int) ([]api.Authority, api.Errno) {
	i, j := indexOf(l, into), indexOf(l, from)
	if i < 0 || j < 0 {
		return nil, api.ErrNone
	}
	if i == j || l[i].Kind != l[j].Kind {
		return nil, api.ErrArg
	}
	var file []api.Authority
	for _, a := range l {
		if a.ID == from {
			continue
		}
		if a.ID == into {
			a.See = slices.Concat(a.See, []string{l[j].Heading}, l[j].See)
		}
		var above []int
		for _, id := range a.Above {
			if id == from {
				id = into
			}
			if id != a.ID && !slices.Contains(above, id) {
				above = append(above, id)
			}
		}
		slices.Sort(above)
		a.Above = above
		file = append(file, a)
	}
	return valued(file)
}

// setAboveOf returns what P13.6 says.
func setAboveOf(l []api.Authority, id int, above []int) ([]api.Authority, api.Errno) {
	i := indexOf(l, id)
	if i < 0 {
		return nil, api.ErrNone
	}
	file := slices.Clone(l)
	file[i].Above = above
	return valued(file)
}

// waysOf returns what P13.7 says of Above and Below.
func waysOf(l []api.Authority, id int) (above, below []int) {
	i := indexOf(l, id)
	if i < 0 {
		return nil, nil
	}
	over := closure(l)
	for j, a := range l {
		if over[i][j] {
			above = append(above, a.ID)
		}
		if over[j][i] {
			below = append(below, a.ID)
		}
	}
	return above, below
}

// styled writes a heading with the same Norm in one of several ways.
func styled(r *rand.Rand, s string) string {
	switch r.Intn(5) {
	case 0:
		return strings.ToUpper(s)
	case 1:
		return s + "."
	case 2:
		return "(" + s + ")"
	case 3:
		return strings.ReplaceAll(s, "e", "\u00e9")
	}
	return s
}

// randomHeading returns one of about a number of headings.
func randomHeading(r *rand.Rand, n int) string {
	s := fmt.Sprintf("Theme %d", r.Intn(n))
	if r.Intn(4) == 0 {
		s += fmt.Sprintf("--Part %d", r.Intn(3))
	}
	return styled(r, s)
}

// randomFile returns a right file of up to n authorities.
func randomFile(r *rand.Rand, n int) []api.Authority {
	var l []api.Authority
	taken := map[string]bool{}
	fresh := func(kind int) string {
		for {
			s := randomHeading(r, 5*n+5)
			key := fmt.Sprint(kind, heading.Norm(s))
			if !taken[key] {
				taken[key] = true
				return s
			}
		}
	}
	id := 0
	for range r.Intn(n + 1) {
		id += 1 + r.Intn(3)
		a := api.Authority{ID: id, Kind: 3 - r.Intn(2)*r.Intn(2)}
		a.Heading = fresh(a.Kind)
		for range r.Intn(4) * r.Intn(4) {
			if len(a.See) < api.MaxSee {
				a.See = append(a.See, fresh(a.Kind))
			}
		}
		l = append(l, a)
	}
	addSteps(r, l)
	return l
}

// addSteps gives authorities others above them, without a loop.
func addSteps(r *rand.Rand, l []api.Authority) {
	order := r.Perm(len(l))
	for i := range l {
		for j := range l {
			if order[j] < order[i] && l[i].Kind == l[j].Kind && len(l[i].Above) < api.MaxAbove && r.Intn(4) == 0 {
				l[i].Above = append(l[i].Above, l[j].ID)
			}
		}
	}
}
