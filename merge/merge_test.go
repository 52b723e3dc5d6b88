package merge

import (
	"fmt"
	"math/rand"
	"reflect"
	"slices"
	"testing"
	"time"

	"library/api"
	"library/record"
)

// short shortens what is shown.
func short(v any) string {
	s := fmt.Sprintf("%+v", v)
	if len(s) > 800 {
		return s[:800] + fmt.Sprintf(".. (%d bytes)", len(s))
	}
	return s
}

// fd returns a field whose subfields are written as their codes and values.
func fd(tag string, subs ...string) api.Field {
	f := api.Field{Tag: tag, Ind: "1 "}
	for _, s := range subs {
		f.Subs = append(f.Subs, api.Sub{Code: s[0], Value: s[1:]})
	}
	return f
}

// rec returns a record.
func rec(id int, fields ...api.Field) api.Record {
	return api.Record{ID: id, Version: 3, Kind: api.KdBook, Lang: "eng", Fields: fields}
}

// times returns n fields with a tag that differ from one another.
func times(tag string, n int) []api.Field {
	var l []api.Field
	for i := range n {
		l = append(l, fd(tag, fmt.Sprint("a", tag, " number ", i)))
	}
	return l
}

// keep returns a rule.
func keep(tag string, how int) api.Keep { return api.Keep{Tag: tag, How: how} }

// parting returns a parting.
func parting(into int, from api.Record, taken ...int) api.Parting {
	return api.Parting{Into: into, From: from, Taken: taken}
}

// rebuilt returns a copy of a value, for the lists of which make makes the copies of their elements.
func rebuilt[T any](v T, make func(reflect.Value) reflect.Value) T {
	return rebuiltValue(reflect.ValueOf(&v).Elem(), make).Interface().(T)
}

// rebuiltValue is rebuilt for values of every type.
func rebuiltValue(v reflect.Value, make func(reflect.Value) reflect.Value) reflect.Value {
	switch v.Kind() {
	case reflect.Slice:
		l := make(v)
		for i := range l.Len() {
			l.Index(i).Set(rebuiltValue(l.Index(i), make))
		}
		return l
	case reflect.Struct:
		s := reflect.New(v.Type()).Elem()
		for i := range v.NumField() {
			s.Field(i).Set(rebuiltValue(v.Field(i), make))
		}
		return s
	}
	return v
}

// copyOf returns a copy of a value; empty lists become nil.
func copyOf[T any](v T) T {
	return rebuilt(v, func(l reflect.Value) reflect.Value {
		return reflect.AppendSlice(reflect.Zero(l.Type()), l)
	})
}

// whole returns a copy of a value with all that stands behind the ends of its lists.
func whole[T any](v T) T {
	return rebuilt(v, func(l reflect.Value) reflect.Value {
		return reflect.AppendSlice(reflect.Zero(l.Type()), l.Slice(0, l.Cap()))
	})
}

// roomy returns a copy of a value in which there is room behind the ends of all lists, filled with something.
func roomy[T any](v T) T {
	return rebuilt(v, func(l reflect.Value) reflect.Value {
		const room = 4
		list := reflect.MakeSlice(l.Type(), l.Len()+room, l.Len()+room)
		reflect.Copy(list, l)
		scribble(list.Slice(l.Len(), list.Len()))
		return list.Slice(0, l.Len())
	})
}

// scribble changes everything that can be reached from a list, or from what can be set.
func scribble(v reflect.Value) {
	switch v.Kind() {
	case reflect.Slice:
		l := v.Slice(0, v.Cap())
		for i := range l.Len() {
			scribble(l.Index(i))
		}
	case reflect.Struct:
		for i := range v.NumField() {
			scribble(v.Field(i))
		}
	case reflect.String:
		v.SetString("scribbled")
	case reflect.Int:
		v.SetInt(-99)
	case reflect.Uint8:
		v.SetUint('!')
	case reflect.Bool:
		v.SetBool(!v.Bool())
	}
}

// span is what a list takes of the memory, up to its capacity.
type span struct{ from, end uintptr }

// spans returns what the lists of a value take of the memory.
func spans(v reflect.Value) []span {
	var list []span
	switch v.Kind() {
	case reflect.Slice:
		if v.Cap() > 0 {
			list = append(list, span{v.Pointer(), v.Pointer() + uintptr(v.Cap())*v.Type().Elem().Size()})
		}
		for i := range v.Len() {
			list = append(list, spans(v.Index(i))...)
		}
	case reflect.Struct:
		for i := range v.NumField() {
			list = append(list, spans(v.Field(i))...)
		}
	}
	return list
}

// apart reports whether no two lists in the values share memory.
func apart(values ...any) bool {
	var list []span
	for _, v := range values {
		list = append(list, spans(reflect.ValueOf(v))...)
	}
	slices.SortFunc(list, func(a, b span) int { return int(a.from) - int(b.from) })
	for i := 1; i < len(list); i++ {
		if list[i].from < list[i-1].end {
			return false
		}
	}
	return true
}

// equal compares values; nil and empty lists are equal.
func equal[T any](a, b T) bool { return reflect.DeepEqual(copyOf(a), copyOf(b)) }

// input is what a call is given; not every call uses all of it.
type input struct {
	A, B    api.Record
	Rules   []api.Keep
	Tag     string
	Parting api.Parting
}

// pure makes a call twice, with room behind the lists of its arguments: it changes none of them, what the caller does to the first result shows neither in them nor in the second result, and no two lists share memory.
func pure[R any](t *testing.T, in input, call func(input) R) R {
	t.Helper()
	given := roomy(in)
	before := whole(given)
	first := call(given)
	kept := copyOf(first)
	if !apart(given, first) {
		t.Errorf("lists share memory for %s: %s", short(in), short(first))
	}
	scribble(reflect.ValueOf(&first).Elem())
	second := call(given)
	if !apart(given, first, second) {
		t.Errorf("lists of two results share memory for %s: %s", short(in), short(second))
	}
	if !reflect.DeepEqual(whole(given), before) {
		t.Errorf("the arguments %s become %s", short(before), short(whole(given)))
	}
	if !equal(second, kept) {
		t.Errorf("the second result for %s is %s, the first one was %s", short(in), short(second), short(kept))
	}
	return second
}

// wantRight checks Right, and that the description says the same.
func wantRight(t *testing.T, p api.Parting, want api.Errno) {
	t.Helper()
	got := pure(t, input{Parting: p}, func(in input) api.Errno { return Right(in.Parting) })
	if got != want {
		t.Errorf("Right of %s is %d, want %d", short(p), int(got), int(want))
	}
	if said := rightOf(p); said != want {
		t.Errorf("the description says %d of %s, want %d", int(said), short(p), int(want))
	}
}

// wantHow checks How, and that the description says the same.
func wantHow(t *testing.T, l []api.Keep, tag string, want int) {
	t.Helper()
	got := pure(t, input{Rules: l, Tag: tag}, func(in input) int { return How(in.Rules, in.Tag) })
	if got != want {
		t.Errorf("How of %q is %d, want %d: %s", tag, got, want, short(l))
	}
	if said := howOf(l, tag); said != want {
		t.Errorf("the description says %d of %q, want %d: %s", said, tag, want, short(l))
	}
}

// merge returns what Merge returns.
func merge(t *testing.T, into, from api.Record, l []api.Keep) merged {
	t.Helper()
	return pure(t, input{A: into, B: from, Rules: l}, func(in input) merged {
		r, p, err := Merge(in.A, in.B, in.Rules)
		return merged{r, p, err}
	})
}

// wantSaid checks that Merge returns what the description says, and returns it.
func wantSaid(t *testing.T, into, from api.Record, l []api.Keep) merged {
	t.Helper()
	got, said := merge(t, into, from, l), mergeOf(into, from, l)
	if !equal(got, said) {
		t.Errorf("Merge of %s and %s with %s is %s, the description says %s", short(into), short(from), short(l), short(got), short(said))
	}
	return got
}

// wantTaken checks what Merge takes of two records.
func wantTaken(t *testing.T, into, from api.Record, l []api.Keep, taken ...int) {
	t.Helper()
	want := merged{Record: into, Parting: api.Parting{Into: into.ID, From: from, Taken: taken}}
	want.Record.Fields = slices.Clone(into.Fields)
	for _, i := range taken {
		want.Record.Fields = append(want.Record.Fields, from.Fields[i])
	}
	if got := wantSaid(t, into, from, l); !equal(got, want) {
		t.Errorf("Merge of %s and %s with %s is %s, want %s", short(into), short(from), short(l), short(got), short(want))
	}
}

// wantNoMerge checks that Merge returns an error, and nothing beside it.
func wantNoMerge(t *testing.T, into, from api.Record, l []api.Keep, err api.Errno) {
	t.Helper()
	if got := wantSaid(t, into, from, l); !equal(got, merged{Err: err}) {
		t.Errorf("Merge of %s and %s with %s is %s, want error %d", short(into), short(from), short(l), short(got), int(err))
	}
}

// partedBy returns what Split and Whole return.
func partedBy(t *testing.T, r api.Record, p api.Parting) (split, bool) {
	t.Helper()
	in := input{A: r, Parting: p}
	s := pure(t, in, func(in input) split {
		into, from, err := Split(in.A, in.Parting)
		return split{into, from, err}
	})
	return s, pure(t, in, func(in input) bool { return Whole(in.A, in.Parting) })
}

// wantPartedSaid checks that Split and Whole return what the description says, and returns it.
func wantPartedSaid(t *testing.T, r api.Record, p api.Parting) (split, bool) {
	t.Helper()
	got, all := partedBy(t, r, p)
	said, saidAll := partedOf(r, p)
	if !equal(got, said) || all != saidAll {
		t.Errorf("Split of %s by %s is %s, Whole %t, the description says %s, %t", short(r), short(p), short(got), all, short(said), saidAll)
	}
	return got, all
}

// wantSplit checks Split, which leaves these fields, and Whole.
func wantSplit(t *testing.T, r api.Record, p api.Parting, all bool, left ...api.Field) {
	t.Helper()
	want := split{Into: r, From: p.From}
	want.Into.Fields = left
	if got, gotAll := wantPartedSaid(t, r, p); !equal(got, want) || gotAll != all {
		t.Errorf("Split of %s by %s is %s, Whole %t, want %s, %t", short(r), short(p), short(got), gotAll, short(want), all)
	}
}

// wantNoSplit checks that Split returns an error, and nothing beside it, and Whole false.
func wantNoSplit(t *testing.T, r api.Record, p api.Parting, err api.Errno) {
	t.Helper()
	if got, all := wantPartedSaid(t, r, p); !equal(got, split{Err: err}) || all {
		t.Errorf("Split of %s by %s is %s, Whole %t, want error %d", short(r), short(p), short(got), all, int(err))
	}
}

// wantValid checks that records are valid, so that what is tested is not an error of theirs.
func wantValid(t *testing.T, l ...api.Record) {
	t.Helper()
	for _, r := range l {
		if err := record.Right(r); err != api.OK {
			t.Fatalf("error %d of the record %s", int(err), short(r))
		}
	}
}

// with returns a record that was changed.
func with(r api.Record, change func(*api.Record)) api.Record {
	r = copyOf(r)
	change(&r)
	return r
}

// fieldWith returns a field that was changed.
func fieldWith(f api.Field, change func(*api.Field)) api.Field {
	f = copyOf(f)
	change(&f)
	return f
}

// fault is what makes a record wrong, and its error.
type fault struct {
	name  string
	err   api.Errno
	apply func(*api.Record)
}

// faults returns faults of records that have a field, in the order in which record.Right examines them; two of them do not undo each other.
func faults() []fault {
	inField := func(change func(*api.Field)) func(*api.Record) {
		return func(r *api.Record) { change(&r.Fields[0]) }
	}
	inSub := func(change func(*api.Sub)) func(*api.Record) {
		return func(r *api.Record) { change(&r.Fields[0].Subs[0]) }
	}
	long := string(make([]byte, 201))
	return []fault{
		{"ID", api.ErrRange, func(r *api.Record) { r.ID = 10000 }},
		{"version", api.ErrVersion, func(r *api.Record) { r.Version = 4 }},
		{"kind", api.ErrArg, func(r *api.Record) { r.Kind = 5 }},
		{"language", api.ErrForm, func(r *api.Record) { r.Lang = "en" }},
		{"fields", api.ErrLong, func(r *api.Record) { r.Fields = append(r.Fields, times("500", 64)...) }},
		{"tag", api.ErrTag, inField(func(f *api.Field) { f.Tag = "009" })},
		{"indicators", api.ErrForm, inField(func(f *api.Field) { f.Ind = "1" })},
		{"code", api.ErrArg, inSub(func(s *api.Sub) { s.Code = 'A' })},
		{"text", api.ErrForm, inSub(func(s *api.Sub) { s.Value = long })},
		{"authority", api.ErrRange, inField(func(f *api.Field) { f.Auth = -1 })},
	}
}

// otherFaults returns further faults of records that have a field, which undo some of faults.
func otherFaults() []fault {
	list := faults()
	for _, id := range []int{-1 << 63, -9999, -1, 10001, 1<<32 + 1, 1<<63 - 1} {
		list = append(list, fault{fmt.Sprint("ID ", id), api.ErrRange, func(r *api.Record) { r.ID = id }})
	}
	return append(list,
		fault{"version 0", api.ErrVersion, func(r *api.Record) { r.Version = 0 }},
		fault{"kind 0", api.ErrArg, func(r *api.Record) { r.Kind = 0 }},
		fault{"no language", api.ErrForm, func(r *api.Record) { r.Lang = "" }},
		fault{"no subfields", api.ErrMissing, func(r *api.Record) { r.Fields[0].Subs = nil }},
		fault{"subfields", api.ErrLong, func(r *api.Record) { r.Fields[0].Subs = slices.Repeat(r.Fields[0].Subs, 17) }},
		fault{"no value", api.ErrMissing, func(r *api.Record) { r.Fields[0].Subs[0].Value = "" }},
		fault{"long value", api.ErrLong, func(r *api.Record) { r.Fields[0].Subs[0].Value = fmt.Sprintf("%201d", 1) }},
		fault{"authority", api.ErrRange, func(r *api.Record) { r.Fields[0].Auth = 10000 }},
		fault{"last field", api.ErrTag, func(r *api.Record) { r.Fields = append(r.Fields, fd("9999", "ax")) }},
	)
}

// eachSequence calls a function with all sequences of up to n of the elements.
func eachSequence[T any](elements []T, n int, call func([]T)) {
	var extend func(l []T)
	extend = func(l []T) {
		call(l)
		if len(l) == n {
			return
		}
		for _, e := range elements {
			extend(append(slices.Clone(l), e))
		}
	}
	extend(nil)
}

// eachChoice calls a function with all choices of the indices below n, in ascending order.
func eachChoice(n int, call func([]int)) {
	for bits := range 1 << n {
		var l []int
		for i := range n {
			if bits>>i&1 > 0 {
				l = append(l, i)
			}
		}
		call(l)
	}
}

// pick returns one of the elements.
func pick[T any](r *rand.Rand, l ...T) T { return l[r.Intn(len(l))] }

// within checks that a call ends in good time.
func within(t *testing.T, name string, call func()) {
	t.Helper()
	start := time.Now()
	call()
	if d := time.Since(start); d > 10*time.Second {
		t.Errorf("%s takes %s", name, d)
	}
}

// The chapter's examples.
func TestExamples(t *testing.T) {
	into := rec(1, fd("245", "aDogs"), fd("650", "aDogs"))
	from := rec(2, fd("245", "aAll dogs"), fd("650", "aDogs"), fd("650", "aPets"))
	wantTaken(t, into, from, Standard(), 2)
	r, p, _ := Merge(into, from, Standard())
	if !slices.Equal(p.Taken, []int{2}) || len(r.Fields) != 3 {
		t.Errorf("Merge returns %s and %s", short(r), short(p))
	}
	wantRight(t, p, api.OK)
	r.Fields = append(r.Fields, fd("500", "aGood"))
	wantSplit(t, r, p, true, fd("245", "aDogs"), fd("650", "aDogs"), fd("500", "aGood"))
	_, back, _ := Split(r, p)
	if !record.Same(back, from) {
		t.Errorf("Split returns %s, not %s", short(back), short(from))
	}
	wantHow(t, Standard(), "245", api.KeepMissing)
	wantHow(t, Standard(), "856", api.KeepNone)
	wantHow(t, Standard(), "700", api.KeepNew)
}
