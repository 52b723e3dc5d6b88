package match

import (
	"fmt"
	"math/rand"
	"reflect"
	"slices"
	"testing"
	"time"

	"library/api"
	"library/record"
)

// short shortens what is shown.
func short(v any) string {
	s := fmt.Sprintf("%+v", v)
	if len(s) > 800 {
		return s[:800] + fmt.Sprintf(".. (%d bytes)", len(s))
	}
	return s
}

// fd returns a field whose subfields are written as their codes and values.
func fd(tag string, subs ...string) api.Field {
	f := api.Field{Tag: tag, Ind: "1 "}
	for _, s := range subs {
		f.Subs = append(f.Subs, api.Sub{Code: s[0], Value: s[1:]})
	}
	return f
}

// rec returns a record.
func rec(id int, fields ...api.Field) api.Record {
	return api.Record{ID: id, Version: 3, Kind: api.KdBook, Lang: "eng", Fields: fields}
}

// key returns a match key.
func key(tag string, code byte, norm, weight int) api.MatchKey {
	return api.MatchKey{Tag: tag, Code: code, Norm: norm, Weight: weight}
}

// rule returns a match rule.
func rule(need int, keys ...api.MatchKey) api.MatchRule {
	return api.MatchRule{Keys: keys, Need: need}
}

// rebuilt returns a copy of a value, for the lists of which make makes the copies of their elements.
func rebuilt[T any](v T, make func(reflect.Value) reflect.Value) T {
	return rebuiltValue(reflect.ValueOf(&v).Elem(), make).Interface().(T)
}

// rebuiltValue is rebuilt for values of every type.
func rebuiltValue(v reflect.Value, make func(reflect.Value) reflect.Value) reflect.Value {
	switch v.Kind() {
	case reflect.Slice:
		l := make(v)
		for i := range l.Len() {
			l.Index(i).Set(rebuiltValue(l.Index(i), make))
		}
		return l
	case reflect.Struct:
		s := reflect.New(v.Type()).Elem()
		for i := range v.NumField() {
			s.Field(i).Set(rebuiltValue(v.Field(i), make))
		}
		return s
	}
	return v
}

// copyOf returns a copy of a value; empty lists become nil.
func copyOf[T any](v T) T {
	return rebuilt(v, func(l reflect.Value) reflect.Value {
		return reflect.AppendSlice(reflect.Zero(l.Type()), l)
	})
}

// whole returns a copy of a value with all that stands behind the ends of its lists.
func whole[T any](v T) T {
	return rebuilt(v, func(l reflect.Value) reflect.Value {
		return reflect.AppendSlice(reflect.Zero(l.Type()), l.Slice(0, l.Cap()))
	})
}

// roomy returns a copy of a value in which there is room behind the ends of all lists, filled with something.
func roomy[T any](v T) T {
	return rebuilt(v, func(l reflect.Value) reflect.Value {
		const room = 12
		list := reflect.MakeSlice(l.Type(), l.Len()+room, l.Len()+room)
		reflect.Copy(list, l)
		scribble(list.Slice(l.Len(), list.Len()))
		return list.Slice(0, l.Len())
	})
}

// scribble changes everything that can be reached from a list, or from what can be set.
func scribble(v reflect.Value) {
	switch v.Kind() {
	case reflect.Slice:
		l := v.Slice(0, v.Cap())
		for i := range l.Len() {
			scribble(l.Index(i))
		}
	case reflect.Array:
		for i := range v.Len() {
			scribble(v.Index(i))
		}
	case reflect.Struct:
		for i := range v.NumField() {
			scribble(v.Field(i))
		}
	case reflect.String:
		v.SetString("scribbled")
	case reflect.Int:
		v.SetInt(-99)
	case reflect.Uint8:
		v.SetUint('!')
	}
}

// span is what a list takes of the memory, up to its capacity.
type span struct{ from, end uintptr }

// spans returns what the lists of a value take of the memory.
func spans(v reflect.Value) []span {
	var list []span
	switch v.Kind() {
	case reflect.Slice:
		if v.Cap() > 0 {
			list = append(list, span{v.Pointer(), v.Pointer() + uintptr(v.Cap())*v.Type().Elem().Size()})
		}
		for i := range v.Len() {
			list = append(list, spans(v.Index(i))...)
		}
	case reflect.Struct:
		for i := range v.NumField() {
			list = append(list, spans(v.Field(i))...)
		}
	}
	return list
}

// apart reports whether no two lists in the values share memory.
func apart(values ...any) bool {
	var list []span
	for _, v := range values {
		list = append(list, spans(reflect.ValueOf(v))...)
	}
	slices.SortFunc(list, func(a, b span) int { return int(a.from) - int(b.from) })
	for i := 1; i < len(list); i++ {
		if list[i].from < list[i-1].end {
			return false
		}
	}
	return true
}

// equal compares values; nil and empty lists are equal.
func equal[T any](a, b T) bool { return reflect.DeepEqual(copyOf(a), copyOf(b)) }

// input is what a call is given; not every call uses all of it.
type input struct {
	Rule    api.MatchRule
	Key     api.MatchKey
	A, B    api.Record
	Records []api.Record
}

// pure makes a call twice, with room behind the lists of its arguments: it changes none of them, what the caller does to the first result shows neither in them nor in the second result, and no two lists share memory.
func pure[R any](t *testing.T, in input, call func(input) R) R {
	t.Helper()
	given := roomy(in)
	before := whole(given)
	first := call(given)
	kept := copyOf(first)
	if !apart(given, first) {
		t.Errorf("lists share memory for %s: %s", short(in), short(first))
	}
	scribble(reflect.ValueOf(&first).Elem())
	second := call(given)
	if !apart(given, first, second) {
		t.Errorf("lists of two results share memory for %s: %s", short(in), short(second))
	}
	if !reflect.DeepEqual(whole(given), before) {
		t.Errorf("the arguments %s become %s", short(before), short(whole(given)))
	}
	if !equal(second, kept) {
		t.Errorf("the second result for %s is %s, the first one was %s", short(in), short(second), short(kept))
	}
	return second
}

// wantRight checks Right, and that the description says the same.
func wantRight(t *testing.T, m api.MatchRule, want api.Errno) {
	t.Helper()
	got := pure(t, input{Rule: m}, func(in input) api.Errno { return Right(in.Rule) })
	if got != want {
		t.Errorf("Right of %s is %d, want %d", short(m), int(got), int(want))
	}
	if said := rightOf(m); said != want {
		t.Errorf("the description says %d of %s, want %d", int(said), short(m), int(want))
	}
}

// wantKeys checks Keys, and that the description says the same.
func wantKeys(t *testing.T, k api.MatchKey, r api.Record, want ...string) {
	t.Helper()
	got := pure(t, input{Key: k, A: r}, func(in input) []string { return Keys(in.Key, in.A) })
	if !slices.Equal(got, want) {
		t.Errorf("Keys of %s and %s is %q, want %q", short(k), short(r), short(got), short(want))
	}
	if said := keysOf(k, r); !slices.Equal(said, want) {
		t.Errorf("the description says %q of %s and %s, want %q", short(said), short(k), short(r), short(want))
	}
}

// wantScore checks Score in both orders, and that the description says the same.
func wantScore(t *testing.T, m api.MatchRule, a, b api.Record, want int) {
	t.Helper()
	for _, in := range []input{{Rule: m, A: a, B: b}, {Rule: m, A: b, B: a}} {
		got := pure(t, in, func(in input) int { return Score(in.Rule, in.A, in.B) })
		if got != want {
			t.Errorf("Score of %s is %d, want %d", short(in), got, want)
		}
		if said := scoreOf(m, in.A, in.B); said != want {
			t.Errorf("the description says %d of %s, want %d", said, short(in), want)
		}
	}
}

// wantFind checks Find, and that the description says the same.
func wantFind(t *testing.T, m api.MatchRule, l []api.Record, r api.Record, want ...int) {
	t.Helper()
	in := input{Rule: m, Records: l, A: r}
	got := pure(t, in, func(in input) []int { return Find(in.Rule, in.Records, in.A) })
	if !slices.Equal(got, want) {
		t.Errorf("Find of %s is %s, want %s", short(in), short(got), short(want))
	}
	if said := findOf(m, l, r); !slices.Equal(said, want) {
		t.Errorf("the description says %s of %s, want %s", short(said), short(in), short(want))
	}
}

// wantPairs checks Pairs, and that the description says the same.
func wantPairs(t *testing.T, m api.MatchRule, l []api.Record, want ...[2]int) {
	t.Helper()
	in := input{Rule: m, Records: l}
	got := pure(t, in, func(in input) [][2]int { return Pairs(in.Rule, in.Records) })
	if !slices.Equal(got, want) {
		t.Errorf("Pairs of %s is %s, want %s", short(in), short(got), short(want))
	}
	if said := pairsOf(m, l); !slices.Equal(said, want) {
		t.Errorf("the description says %s of %s, want %s", short(said), short(in), short(want))
	}
}

// wantValid checks that a rule and a list of records are valid, so that the promises hold for them.
func wantValid(t *testing.T, m api.MatchRule, l ...api.Record) {
	t.Helper()
	if err := Right(m); err != api.OK {
		t.Fatalf("error %d of the rule %s", int(err), short(m))
	}
	seen := map[int]bool{}
	for _, r := range l {
		if err := record.Right(r); err != api.OK || seen[r.ID] {
			t.Fatalf("error %d of the record %s, or two with its ID", int(err), short(r))
		}
		seen[r.ID] = true
	}
}

// eachSequence calls a function with all sequences of up to n of the elements.
func eachSequence[T any](elements []T, n int, call func([]T)) {
	call(nil)
	var extend func(l []T)
	extend = func(l []T) {
		for _, e := range elements {
			longer := append(slices.Clone(l), e)
			call(longer)
			if len(longer) < n {
				extend(longer)
			}
		}
	}
	if n > 0 {
		extend(nil)
	}
}

// eachOrder calls a function with the elements in all orders.
func eachOrder[T any](elements []T, call func([]T)) {
	var extend func(l, rest []T)
	extend = func(l, rest []T) {
		if len(rest) == 0 {
			call(l)
		}
		for i := range rest {
			others := slices.Delete(slices.Clone(rest), i, i+1)
			extend(append(slices.Clone(l), rest[i]), others)
		}
	}
	extend(nil, elements)
}

// pick returns one of the elements.
func pick[T any](r *rand.Rand, l ...T) T { return l[r.Intn(len(l))] }

// within checks that a call ends in good time.
func within(t *testing.T, name string, call func()) {
	t.Helper()
	start := time.Now()
	call()
	if d := time.Since(start); d > 10*time.Second {
		t.Errorf("%s takes %s", name, d)
	}
}

// The chapter's examples.
func TestExamples(t *testing.T) {
	dogs := rec(1, fd("245", "aDogs & Cats"))
	wantKeys(t, key("245", 'a', 1, 50), dogs, "dogs cats")
	wantKeys(t, key("245", 'a', 3, 50), dogs, "dogs")
	wantKeys(t, key("264", 'c', 4, 20), rec(1, fd("264", "cc12345"), fd("264", "c[1998]")), "1998")
	a := rec(1, fd("020", "a0-306-40615-2"), fd("100", "aSmith, Ann"), fd("245", "aDogs & cats", "cAnn Smith"), fd("260", "c1998"))
	b := rec(2, fd("022", "a0378-5955"), fd("100", "aSMITH, ANN."), fd("245", "aDogs & Cats :"), fd("264", "c1998"))
	wantValid(t, Standard(), a, b)
	wantScore(t, Standard(), a, b, 80)
	wantFind(t, Standard(), []api.Record{a, b}, a)
	wantPairs(t, Standard(), []api.Record{a, b})
	a.Fields = append(a.Fields, fd("264", "aLondon", "c[c1998, 1999]"))
	wantValid(t, Standard(), a, b)
	wantScore(t, Standard(), a, b, 100)
	wantFind(t, Standard(), []api.Record{a, b}, a, 2)
	wantFind(t, Standard(), []api.Record{a, b}, b, 1)
	wantPairs(t, Standard(), []api.Record{b, a}, [2]int{1, 2})
}
