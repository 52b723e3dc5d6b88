package record

import (
	"fmt"
	"math/rand"
	"slices"
	"strings"
	"testing"

	"library/api"
	"library/field"
)

// wantRecord compares what an edit returns with what it must return: a record, or an error and nothing else.
func wantRecord(t *testing.T, call string, got api.Record, err api.Errno, want api.Record, wantErr api.Errno) {
	t.Helper()
	if err != wantErr || !equal(got, want) {
		t.Errorf("%s is %s, error %d, not %s, error %d", call, short(shown(got)), int(err), short(shown(want)), int(wantErr))
	}
}

// wantInsert compares Insert with what it must return, and checks that the record and the field stay as they were.
func wantInsert(t *testing.T, r api.Record, i int, f api.Field, want api.Record, wantErr api.Errno) {
	t.Helper()
	given, givenField := roomy(r), roomy(book(f)).Fields[0]
	same, sameField := keeper(given), keeper(book(givenField))
	got, err := Insert(given, i, givenField)
	call := fmt.Sprintf("Insert at %d into %d fields", i, len(r.Fields))
	wantRecord(t, call, got, err, want, wantErr)
	if !same() || !sameField() {
		t.Errorf("%s changes what it was given", call)
	}
	// Nor does a change of the list that it returns reach the record.
	spoil(got)
	if !same() {
		t.Errorf("%s returns the record's list", call)
	}
}

// wantRemove compares Remove with what it must return, and checks that the record stays as it was.
func wantRemove(t *testing.T, r api.Record, i int, want api.Record, wantErr api.Errno) {
	t.Helper()
	given := roomy(r)
	same := keeper(given)
	got, err := Remove(given, i)
	call := fmt.Sprintf("Remove of %d from %d fields", i, len(r.Fields))
	wantRecord(t, call, got, err, want, wantErr)
	if !same() {
		t.Errorf("%s changes what it was given", call)
	}
	spoil(got)
	if !same() {
		t.Errorf("%s returns the record's list", call)
	}
}

// spoil writes into a record's list of fields, and behind its end.
func spoil(r api.Record) {
	list := r.Fields[:cap(r.Fields)]
	for i := range list {
		list[i] = api.Field{Tag: "!"}
	}
}

// inserted returns what the document says that Insert returns of arguments without errors.
func inserted(r api.Record, i int, f api.Field) api.Record {
	var list []api.Field
	for j := range len(r.Fields) + 1 {
		switch {
		case j < i:
			list = append(list, r.Fields[j])
		case j == i:
			list = append(list, f)
		default:
			list = append(list, r.Fields[j-1])
		}
	}
	r.Fields = list
	return r
}

// removed returns what the document says that Remove returns of arguments without errors.
func removed(r api.Record, i int) api.Record {
	var list []api.Field
	for j, f := range r.Fields {
		if j != i {
			list = append(list, f)
		}
	}
	r.Fields = list
	return r
}

// beyond returns numbers that are no index of n elements, nor the one behind the last.
func beyond(n int) []int {
	return append([]int{-n - 1, -1, n + 1, n + 2, 2*n + 1, 256 + n, 1<<16 + n, 1<<32 + n, -1<<32 + n}, far...)
}

// P8.4: every place in records of each number of fields.
func TestInsert(t *testing.T) {
	f := api.Field{Tag: "500", Ind: "  ", Subs: []api.Sub{sub('a', "new"), sub('b', "x")}, Auth: 7}
	for n := range 64 {
		r := book(times(n)...)
		for i := range n + 1 {
			wantInsert(t, r, i, f, inserted(r, i, f), api.OK)
		}
		for _, i := range beyond(n) {
			wantInsert(t, r, i, f, api.Record{}, api.ErrRange)
		}
	}
}

// P8.4: every place in records that are full.
func TestInsertFull(t *testing.T) {
	r := book(times(64)...)
	for i := range 65 {
		wantInsert(t, r, i, tagged("500", 1), api.Record{}, api.ErrFull)
	}
	for _, i := range beyond(64) {
		wantInsert(t, r, i, tagged("500", 1), api.Record{}, api.ErrRange)
	}
}

// P8.4: every pair of errors of Insert, and all of them; the first one counts.
func TestInsertOrder(t *testing.T) {
	for _, n := range []int{0, 1, 3, 62, 63, 64} {
		r := book(times(n)...)
		for _, wrong := range wrongFields() {
			for i := range n + 1 {
				wantInsert(t, r, i, wrong, api.Record{}, field.Right(wrong))
			}
			for _, i := range beyond(n) {
				wantInsert(t, r, i, wrong, api.Record{}, api.ErrRange)
			}
		}
	}
}

// P8.4: the other parts of the record, and of the fields, stay as they are.
func TestInsertParts(t *testing.T) {
	random := rand.New(rand.NewSource(84))
	for _, r := range someRecords() {
		for i := range len(r.Fields) + 1 {
			f := someField(random, 100+i)
			if len(r.Fields) == api.MaxFields {
				wantInsert(t, r, i, f, api.Record{}, api.ErrFull)
			} else {
				wantInsert(t, r, i, f, inserted(r, i, f), api.OK)
			}
		}
	}
}

// P8.4: every place in records of each number of fields, and places where there is no field.
func TestRemove(t *testing.T) {
	for n := range 65 {
		r := book(times(n)...)
		for i := range n {
			wantRemove(t, r, i, removed(r, i), api.OK)
		}
		for _, i := range append(beyond(n), n) {
			wantRemove(t, r, i, api.Record{}, api.ErrRange)
		}
	}
	for _, i := range append(beyond(0), 0, 1) {
		wantRemove(t, api.Record{}, i, api.Record{}, api.ErrRange)
	}
}

// P8.4: the other parts of the record, and of the fields, stay as they are.
func TestRemoveParts(t *testing.T) {
	for _, r := range someRecords() {
		for i := range r.Fields {
			wantRemove(t, r, i, removed(r, i), api.OK)
		}
		wantRemove(t, r, -1, api.Record{}, api.ErrRange)
		wantRemove(t, r, len(r.Fields), api.Record{}, api.ErrRange)
	}
}

// P8.4: two fields that are inserted into the same list, which has room behind its end, do not share a place.
func TestInsertTwice(t *testing.T) {
	for n := range 63 {
		r := book(make([]api.Field, 0, 100)...)
		r.Fields = append(r.Fields, times(n)...)
		a, _ := Insert(r, n, tagged("500", 1))
		b, _ := Insert(r, n, tagged("500", 2))
		if !equal(a, inserted(r, n, tagged("500", 1))) || !equal(b, inserted(r, n, tagged("500", 2))) {
			t.Errorf("two fields share the place behind %d fields", n)
		}
		c, _ := Insert(a, 0, tagged("500", 3))
		d, _ := Remove(a, 0)
		if !equal(a, inserted(r, n, tagged("500", 1))) || len(c.Fields) != n+2 || len(d.Fields) != n {
			t.Errorf("an edit reaches the record before it, %d fields", n)
		}
	}
}

// P8.7: Remove after Insert, and Insert after Remove, at every place of many records; what they return is valid.
func TestEditBack(t *testing.T) {
	random := rand.New(rand.NewSource(87))
	for _, r := range someRecords() {
		wantRight(t, r, api.OK)
		for i := range len(r.Fields) + 1 {
			f := someField(random, i)
			more, err := Insert(r, i, f)
			if len(r.Fields) == api.MaxFields {
				continue
			}
			wantRight(t, more, api.OK)
			back, backErr := Remove(more, i)
			if err != api.OK || backErr != api.OK || !Same(back, r) {
				t.Errorf("Remove of %d after Insert is %s, not %s", i, short(shown(back)), short(shown(r)))
			}
		}
		for i, f := range r.Fields {
			less, err := Remove(r, i)
			wantRight(t, less, api.OK)
			back, backErr := Insert(less, i, f)
			if err != api.OK || backErr != api.OK || !Same(back, r) {
				t.Errorf("Insert at %d after Remove is %s, not %s", i, short(shown(back)), short(shown(r)))
			}
		}
	}
}

// P8.7: long runs of edits, against a list of values; every record on the way stays valid and as it was.
func TestEditRuns(t *testing.T) {
	random := rand.New(rand.NewSource(88))
	for range 40 {
		r := book()
		var list, seen []string
		var records []api.Record
		for step := range 200 {
			if i := random.Intn(len(r.Fields) + 1); i < len(r.Fields) && random.Intn(3) == 0 {
				r, _ = Remove(r, i)
				list = slices.Delete(list, i, i+1)
			} else if len(r.Fields) < api.MaxFields {
				f := tagged("650", step)
				r, _ = Insert(r, i, f)
				list = slices.Insert(list, i, f.Subs[0].Value)
			}
			wantRight(t, r, api.OK)
			var got []string
			for _, f := range r.Fields {
				got = append(got, f.Subs[0].Value)
			}
			if !slices.Equal(got, list) {
				t.Fatalf("step %d is %q, not %q", step, got, list)
			}
			records, seen = append(records, r), append(seen, shown(r))
		}
		for i := range records {
			if shown(records[i]) != seen[i] {
				t.Fatalf("a later edit changes the record of step %d", i)
			}
		}
	}
}

// sortedOf returns what the document says that Sorted returns: for each tag, in ascending order, its fields in their order.
func sortedOf(r api.Record) api.Record {
	byTag := map[string][]api.Field{}
	for _, f := range r.Fields {
		byTag[f.Tag] = append(byTag[f.Tag], f)
	}
	var list []api.Field
	for n := range 1000 {
		list = append(list, byTag[fmt.Sprintf("%03d", n)]...)
	}
	r.Fields = list
	return r
}

// wantSorted compares Sorted with what it must return, and checks P8.8, and that the record stays as it was.
func wantSorted(t *testing.T, r api.Record) {
	t.Helper()
	given := roomy(r)
	same := keeper(given)
	got, want := Sorted(given), sortedOf(r)
	if !equal(got, want) {
		t.Errorf("Sorted of the tags %s is %s, not %s", tags(r), short(shown(got)), short(shown(want)))
	}
	if again := Sorted(got); !Same(again, got) {
		t.Errorf("sorting a second time makes %s of %s", tags(again), tags(got))
	}
	for i := 1; i < len(got.Fields); i++ {
		if got.Fields[i].Tag < got.Fields[i-1].Tag {
			t.Errorf("the tags of Sorted decrease: %s", tags(got))
		}
	}
	for n := range 10 {
		prefix := fmt.Sprint(n)
		if a, b := Fields(got, prefix), Fields(r, prefix); len(a) != len(b) {
			t.Errorf("Sorted has %d fields with %s, not %d", len(a), prefix, len(b))
		}
	}
	for _, f := range r.Fields {
		if a, b := Fields(got, f.Tag), Fields(r, f.Tag); !equalFields(a, b) {
			t.Errorf("Sorted has the fields %s, not %s", short(shownFields(a)), short(shownFields(b)))
		}
	}
	if !same() {
		t.Errorf("Sorted changes what it was given: %s", tags(r))
	}
	spoil(got)
	if !same() {
		t.Errorf("Sorted returns the record's list: %s", tags(r))
	}
}

// P8.5, P8.8: all sequences of up to six fields with three tags.
func TestSortedShort(t *testing.T) {
	choice := []string{"245", "100", "650"}
	count := 1
	for n := range 7 {
		for code := range count {
			r := book()
			for i := range n {
				r.Fields = append(r.Fields, tagged(choice[code%3], i))
				code /= 3
			}
			wantSorted(t, r)
		}
		count *= 3
	}
}

// P8.5, P8.8: fields in ascending, descending and mixed order, with few and with many different tags.
func TestSortedLong(t *testing.T) {
	random := rand.New(rand.NewSource(85))
	for n := range 65 {
		for _, kinds := range []int{1, 2, 3, 7, 30, 990} {
			var list []api.Field
			for i := range n {
				list = append(list, tagged(fmt.Sprintf("%03d", 10+random.Intn(kinds)*(989/kinds)), i))
			}
			wantSorted(t, book(list...))
			up := sortedOf(book(list...))
			wantSorted(t, up)
			down := book(slices.Clone(up.Fields)...)
			slices.Reverse(down.Fields)
			wantSorted(t, down)
			if n > 0 {
				wantSorted(t, book(append(slices.Clone(up.Fields[1:]), up.Fields[0])...))
				wantSorted(t, book(append([]api.Field{up.Fields[n-1]}, up.Fields[:n-1]...)...))
			}
		}
	}
}

// P8.5, P8.8: records of all kinds; those that are valid stay so.
func TestSortedRecords(t *testing.T) {
	for _, r := range someRecords() {
		wantSorted(t, r)
		wantRight(t, Sorted(r), api.OK)
	}
	wantSorted(t, api.Record{})
	if got := tags(Sorted(book(tagged("999", 1), tagged("010", 2), tagged("099", 3), tagged("100", 4), tagged("090", 5), tagged("101", 6)))); got != "010 090 099 100 101 999" {
		t.Errorf("Sorted has the tags %s", got)
	}
	if got := Sorted(dogs()); !strings.Contains(shown(got), "record 1, version 3, kind 1, language \"eng\", 4 fields") {
		t.Errorf("Sorted is %s", shown(got))
	}
}
