package control

import (
	"fmt"
	"math/rand"
	"reflect"
	"slices"
	"testing"
	"time"

	"library/api"
	"library/authority"
	"library/record"
)

// short shortens what is shown.
func short(v any) string {
	s := fmt.Sprintf("%+v", v)
	if len(s) > 600 {
		return s[:600] + fmt.Sprintf(".. (%d bytes)", len(s))
	}
	return s
}

// shown shows a field.
func shown(f api.Field) string {
	s := fmt.Sprintf("%q@%d %q", f.Tag, f.Auth, f.Ind)
	for _, sub := range f.Subs {
		s += fmt.Sprintf(" $%c %+q", sub.Code, sub.Value)
	}
	if len(s) > 600 {
		return s[:600] + ".."
	}
	return s
}

// fd returns a field whose subfields are written as their codes and values.
func fd(tag string, subs ...string) api.Field {
	f := api.Field{Tag: tag, Ind: "1 "}
	for _, s := range subs {
		f.Subs = append(f.Subs, api.Sub{Code: s[0], Value: s[1:]})
	}
	return f
}

// to returns a field that is linked to an authority.
func to(id int, f api.Field) api.Field {
	f.Auth = id
	return f
}

// rec returns a record.
func rec(id int, fields ...api.Field) api.Record {
	return api.Record{ID: id, Version: 3, Kind: api.KdBook, Lang: "eng", Fields: fields}
}

// au returns an authority.
func au(id, kind int, s string, see ...string) api.Authority {
	return api.Authority{ID: id, Kind: kind, Heading: s, See: see}
}

// rebuilt returns a copy of a value, for the lists of which make makes the copies of their elements.
func rebuilt[T any](v T, make func(reflect.Value) reflect.Value) T {
	return rebuiltValue(reflect.ValueOf(v), make).Interface().(T)
}

// rebuiltValue is rebuilt for values of every type.
func rebuiltValue(v reflect.Value, make func(reflect.Value) reflect.Value) reflect.Value {
	switch v.Kind() {
	case reflect.Slice:
		l := make(v)
		for i := range l.Len() {
			l.Index(i).Set(rebuiltValue(l.Index(i), make))
		}
		return l
	case reflect.Struct:
		s := reflect.New(v.Type()).Elem()
		for i := range v.NumField() {
			s.Field(i).Set(rebuiltValue(v.Field(i), make))
		}
		return s
	}
	return v
}

// copyOf returns a copy of a value; empty lists become nil.
func copyOf[T any](v T) T {
	return rebuilt(v, func(l reflect.Value) reflect.Value {
		return reflect.AppendSlice(reflect.Zero(l.Type()), l)
	})
}

// whole returns a copy of a value with all that stands behind the ends of its lists.
func whole[T any](v T) T {
	return rebuilt(v, func(l reflect.Value) reflect.Value {
		return reflect.AppendSlice(reflect.Zero(l.Type()), l.Slice(0, l.Cap()))
	})
}

// roomy returns a copy of a value in which there is room behind the ends of all lists, filled with something.
func roomy[T any](v T) T {
	return rebuilt(v, func(l reflect.Value) reflect.Value {
		const room = 12
		list := reflect.MakeSlice(l.Type(), l.Len()+room, l.Len()+room)
		reflect.Copy(list, l)
		scribble(list.Slice(l.Len(), list.Len()))
		return list.Slice(0, l.Len())
	})
}

// scribble changes everything that can be reached from a list, or from what can be set.
func scribble(v reflect.Value) {
	switch v.Kind() {
	case reflect.Slice:
		l := v.Slice(0, v.Cap())
		for i := range l.Len() {
			scribble(l.Index(i))
		}
	case reflect.Struct:
		for i := range v.NumField() {
			scribble(v.Field(i))
		}
	case reflect.String:
		v.SetString("scribbled")
	case reflect.Int:
		v.SetInt(-99)
	case reflect.Uint8:
		v.SetUint('!')
	}
}

// span is what a list takes of the memory, up to its capacity.
type span struct{ from, end uintptr }

// spans returns what the lists of a value take of the memory.
func spans(v reflect.Value) []span {
	var list []span
	switch v.Kind() {
	case reflect.Slice:
		if v.Cap() > 0 {
			list = append(list, span{v.Pointer(), v.Pointer() + uintptr(v.Cap())*v.Type().Elem().Size()})
		}
		for i := range v.Len() {
			list = append(list, spans(v.Index(i))...)
		}
	case reflect.Struct:
		for i := range v.NumField() {
			list = append(list, spans(v.Field(i))...)
		}
	}
	return list
}

// apart reports whether no two lists in the values share memory.
func apart(values ...any) bool {
	var list []span
	for _, v := range values {
		list = append(list, spans(reflect.ValueOf(v))...)
	}
	slices.SortFunc(list, func(a, b span) int { return int(a.from) - int(b.from) })
	for i := 1; i < len(list); i++ {
		if list[i].from < list[i-1].end {
			return false
		}
	}
	return true
}

// equal compares values; nil and empty lists are equal.
func equal[T any](a, b T) bool { return reflect.DeepEqual(copyOf(a), copyOf(b)) }

// input is what a call is given; not every call uses all of it.
type input struct {
	Auths   []api.Authority
	Field   api.Field
	Record  api.Record
	Records []api.Record
}

// pure makes a call twice, with room behind the lists of its arguments: it changes none of them, what the caller does to the first result shows neither in them nor in the second result, and no two lists share memory.
func pure[R any](t *testing.T, in input, call func(input) R) R {
	t.Helper()
	given := roomy(in)
	before := whole(given)
	first := call(given)
	kept := copyOf(first)
	if !apart(given, first) {
		t.Errorf("lists share memory for %s: %s", short(in), short(first))
	}
	scribble(reflect.ValueOf(&first).Elem())
	second := call(given)
	if !apart(given, first, second) {
		t.Errorf("lists of two results share memory for %s: %s", short(in), short(second))
	}
	if !reflect.DeepEqual(whole(given), before) {
		t.Errorf("the arguments %s become %s", short(before), short(whole(given)))
	}
	if !equal(second, kept) {
		t.Errorf("the second result for %s is %s, the first one was %s", short(in), short(second), short(kept))
	}
	return second
}

// wantKind checks Kind.
func wantKind(t *testing.T, tag string, want int) {
	t.Helper()
	if got := Kind(tag); got != want {
		t.Errorf("Kind(%q) is %d, want %d", short(tag), got, want)
	}
}

// wantHeading checks Heading.
func wantHeading(t *testing.T, f api.Field, want string) {
	t.Helper()
	got := pure(t, input{Field: f}, func(in input) string { return Heading(in.Field) })
	if got != want {
		t.Errorf("Heading of %s is %q, want %q", shown(f), short(got), short(want))
	}
}

// wantPut checks Put.
func wantPut(t *testing.T, f api.Field, s string, want api.Field) {
	t.Helper()
	got := pure(t, input{Field: f}, func(in input) api.Field { return Put(in.Field, s) })
	if !equal(got, want) {
		t.Errorf("Put of %s and %q is %s, want %s", shown(f), short(s), shown(got), shown(want))
	}
}

// wantRecord checks a record.
func wantRecord(t *testing.T, name string, l []api.Authority, r, got, want api.Record) {
	t.Helper()
	if equal(got, want) {
		return
	}
	t.Errorf("%s of %s and %s is %s, want %s", name, short(l), short(r), short(got), short(want))
	for i := range min(len(got.Fields), len(want.Fields)) {
		if !equal(got.Fields[i], want.Fields[i]) {
			t.Errorf("field %d: %s becomes %s, want %s", i, shown(r.Fields[i]), shown(got.Fields[i]), shown(want.Fields[i]))
		}
	}
}

// wantLink checks Link.
func wantLink(t *testing.T, l []api.Authority, r, want api.Record) {
	t.Helper()
	got := pure(t, input{Auths: l, Record: r}, func(in input) api.Record { return Link(in.Auths, in.Record) })
	wantRecord(t, "Link", l, r, got, want)
}

// wantFollow checks Follow.
func wantFollow(t *testing.T, l []api.Authority, r, want api.Record) {
	t.Helper()
	got := pure(t, input{Auths: l, Record: r}, func(in input) api.Record { return Follow(in.Auths, in.Record) })
	wantRecord(t, "Follow", l, r, got, want)
}

// wantLoose checks Loose.
func wantLoose(t *testing.T, r api.Record, want ...int) {
	t.Helper()
	got := pure(t, input{Record: r}, func(in input) []int { return Loose(in.Record) })
	if !slices.Equal(got, want) {
		t.Errorf("Loose of %s is %v, want %v", short(r), got, want)
	}
}

// wantUses checks Uses.
func wantUses(t *testing.T, l []api.Record, id int, want ...int) {
	t.Helper()
	got := pure(t, input{Records: l}, func(in input) []int { return Uses(in.Records, id) })
	if !slices.Equal(got, want) {
		t.Errorf("Uses of %s and %d is %v, want %v", short(l), id, got, want)
	}
}

// wantTurn checks Turn.
func wantTurn(t *testing.T, l []api.Record, from, into int, want []api.Record) {
	t.Helper()
	got := pure(t, input{Records: l}, func(in input) []api.Record { return Turn(in.Records, from, into) })
	if !equal(got, want) {
		t.Errorf("Turn of %s from %d to %d is %s, want %s", short(l), from, into, short(got), short(want))
	}
}

// wantValid checks that a file and a record are valid, so that the promises hold for them.
func wantValid(t *testing.T, l []api.Authority, r api.Record) {
	t.Helper()
	if err := authority.Right(l); err != api.OK {
		t.Fatalf("error %d of the file %s", err, short(l))
	}
	if err := record.Right(r); err != api.OK {
		t.Fatalf("error %d of the record %s", err, short(r))
	}
}

// eachSequence calls a function with all sequences of up to n of the elements.
func eachSequence[T any](elements []T, n int, call func([]T)) {
	call(nil)
	var extend func(l []T)
	extend = func(l []T) {
		for _, e := range elements {
			longer := append(slices.Clone(l), e)
			call(longer)
			if len(longer) < n {
				extend(longer)
			}
		}
	}
	if n > 0 {
		extend(nil)
	}
}

// pick returns one of the elements.
func pick[T any](r *rand.Rand, l ...T) T { return l[r.Intn(len(l))] }

// within checks that a call ends in good time.
func within(t *testing.T, name string, call func()) {
	t.Helper()
	start := time.Now()
	call()
	if d := time.Since(start); d > 10*time.Second {
		t.Errorf("%s takes %s", name, d)
	}
}

// The chapter's examples.
func TestExamples(t *testing.T) {
	wantKind(t, "100", api.AuPerson)
	wantKind(t, "650", api.AuSubject)
	wantKind(t, "245", 0)
	smith := fd("100", "aSmith, Ann", "d1950-", "4aut")
	wantHeading(t, smith, "Smith, Ann, 1950-")
	dogs := fd("650", "aDogs", "xHistory")
	dogs.Ind = " 0"
	wantHeading(t, dogs, "Dogs--History")
	wantPut(t, smith, "Lee, Bo, 1960-", fd("100", "aLee, Bo", "d1960-", "4aut"))
	cats := fd("650", "aCats", "xCare", "xGermany")
	cats.Ind = " 0"
	wantPut(t, dogs, "Cats--Care--Germany", cats)
	l := []api.Authority{au(7, api.AuSubject, "Dogs", "Hounds")}
	r := rec(1, fd("650", "ahounds"))
	wantValid(t, l, r)
	wantLink(t, l, r, rec(1, to(7, fd("650", "ahounds"))))
	wantFollow(t, l, rec(1, to(7, fd("650", "ahounds"))), rec(1, to(7, fd("650", "aDogs"))))
}
