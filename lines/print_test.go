package lines

import (
	"fmt"
	"math"
	"math/rand"
	"slices"
	"strings"
	"testing"

	"library/api"
	"library/record"
)

// wantPrint compares Print with what it must return, and checks that the record stays as it was.
func wantPrint(t *testing.T, r api.Record, want string, wantErr api.Errno) {
	t.Helper()
	given := roomy(r)
	same := keeper(given)
	got, err := Print(given)
	if got != want || err != wantErr {
		t.Errorf("Print is %q, error %d, not %q, error %d, for %s", short(got), int(err), short(want), int(wantErr), shown(r))
	}
	if !same() {
		t.Errorf("Print changes what it was given, %s", shown(r))
	}
}

// wantText checks that Print returns the lines of a valid record, and Parse the record.
func wantText(t *testing.T, r api.Record) {
	t.Helper()
	wantPrint(t, r, textOf(r), api.OK)
	wantParse(t, textOf(r), r, 0, api.OK)
}

// wantRight compares Print with record.Right, and with the lines if there is no error.
func wantRight(t *testing.T, r api.Record) {
	t.Helper()
	if err := record.Right(r); err != api.OK {
		wantPrint(t, r, "", err)
	} else {
		wantText(t, r)
	}
}

// P11.1: lines that are written out.
func TestPrint(t *testing.T) {
	for _, c := range []struct {
		r    api.Record
		want string
	}{
		{book(), "=1 3 book eng\n\n"},
		{book([]api.Field{}...), "=1 3 book eng\n\n"},
		{api.Record{ID: 0, Version: 1, Kind: api.KdBook, Lang: "aaa", Fields: []api.Field{}}, "=0 1 book aaa\n\n"},
		{api.Record{ID: 9999, Version: 3, Kind: api.KdDigital, Lang: "zzz"}, "=9999 3 digital zzz\n\n"},
		{api.Record{ID: 10, Version: 2, Kind: api.KdSerial, Lang: "ger"}, "=10 2 serial ger\n\n"},
		{api.Record{ID: 100, Version: 2, Kind: api.KdMap, Lang: "fra"}, "=100 2 map fra\n\n"},
		{dogs(), "=1 3 book eng\n245 10 $aDogs\n\n"},
		{book(linked(3), linked(0), linked(1), linked(9999)), "=1 3 book eng\n650@3 #0 $aDogs\n650 #0 $aDogs\n650@1 #0 $aDogs\n650@9999 #0 $aDogs\n\n"},
		{book(with("999", sub('a', "b"), sub('0', "1")), with("010", sub('z', "$"), sub('9', "$$x$"))), "=1 3 book eng\n999 #0 $ab$01\n010 #0 $z$$$9$$$$x$$\n\n"},
		{book(with("245", sub('a', " "), sub('b', "é\u00a0中\uffff"), sub('a', "=1 3 book eng"))), "=1 3 book eng\n245 #0 $a $bé\u00a0中\uffff$a=1 3 book eng\n\n"},
	} {
		wantPrint(t, c.r, c.want, api.OK)
		wantParse(t, c.want, c.r, 0, api.OK)
	}
}

// P11.1: every ID, with each kind and version, and every language.
func TestPrintHeader(t *testing.T) {
	for id := range 10000 {
		for kind := 1; kind <= 4; kind++ {
			r := api.Record{ID: id, Version: 1 + (id+kind)%3, Kind: kind, Lang: "eng"}
			wantText(t, r)
		}
	}
	for version := 1; version <= 3; version++ {
		for kind := 1; kind <= 4; kind++ {
			for _, id := range []int{0, 1, 9, 10, 999, 1000, 9999} {
				wantText(t, api.Record{ID: id, Version: version, Kind: kind, Lang: "eng", Fields: []api.Field{linked(id)}})
			}
		}
	}
	for a := range 26 {
		for b := range 26 {
			for c := range 26 {
				wantText(t, api.Record{ID: 1, Version: 3, Kind: 1, Lang: string([]byte{'a' + byte(a), 'a' + byte(b), 'a' + byte(c)})})
			}
		}
	}
}

// P11.1: every number of fields and of subfields, the fields in their own order.
func TestPrintFields(t *testing.T) {
	for n := range 65 {
		wantText(t, book(times(n)...))
		wantText(t, book(slices.Repeat([]api.Field{linked(n)}, n)...))
		backwards := times(n)
		slices.Reverse(backwards)
		wantText(t, book(backwards...))
	}
	for n := 1; n <= 16; n++ {
		wantText(t, book(with("245", subs(n)...)))
		wantText(t, book(with("245", subs(17-n)...), with("100", subs(1)...), with("245", subs(n)...)))
	}
	for tag := 10; tag < 1000; tag++ {
		wantText(t, book(with("500", sub('a', "x")), with(fmt.Sprintf("%03d", tag), sub('a', "y")), with("245", sub('a', "z"))))
	}
	for auth := range 10000 {
		wantText(t, book(linked(auth)))
	}
	wantText(t, book(slices.Repeat([]api.Field{with("245", most()...)}, 64)...))
}

// P11.1: values of every length, and every character.
func TestPrintValues(t *testing.T) {
	for n := 1; n <= 200; n++ {
		for _, c := range []string{"x", "$", " ", "#", "é", "\uffff"} {
			if count := n / len(c); count > 0 {
				wantText(t, book(with("245", sub('a', strings.Repeat(c, count)), sub('b', "y")), with("246", sub('a', "z"+strings.Repeat(c, count-1)))))
			}
		}
	}
	for c := rune(0x20); c <= 0xFFFF; c++ {
		if 0x7F <= c && c < 0xA0 || 0xD800 <= c && c < 0xE000 || c == '$' {
			continue
		}
		want := "=1 3 book eng\n245 #0 $a" + string(c) + "$bx" + string(c) + "x\n\n"
		r := book(with("245", sub('a', string(c)), sub('b', "x"+string(c)+"x")))
		if got, err := Print(r); got != want || err != api.OK {
			t.Fatalf("Print is %q, error %d, not %q", got, int(err), want)
		}
		if got, at, err := Parse(want); !equal(got, r) || at != 0 || err != api.OK {
			t.Fatalf("Parse is %s, %d, error %d, not %s", shown(got), at, int(err), shown(r))
		}
	}
}

// wrongRecords are mistakes that a record can have, in the order in which record.Right looks for them.
var wrongRecords = []struct {
	err    api.Errno
	change func(r *api.Record)
}{
	{api.ErrRange, func(r *api.Record) { r.ID = 10000 }},
	{api.ErrVersion, func(r *api.Record) { r.Version = 4 }},
	{api.ErrArg, func(r *api.Record) { r.Kind = 5 }},
	{api.ErrForm, func(r *api.Record) { r.Lang = "en" }},
	{api.ErrLong, func(r *api.Record) { r.Fields = append(r.Fields, make([]api.Field, 65)...) }},
	{api.ErrTag, func(r *api.Record) { r.Fields[0].Tag = "009" }},
	{api.ErrForm, func(r *api.Record) { r.Fields[0].Ind = "1" }},
	{api.ErrMissing, func(r *api.Record) { r.Fields[0].Subs = nil }},
	{api.ErrLong, func(r *api.Record) { r.Fields[0].Subs = subs(17) }},
	{api.ErrArg, func(r *api.Record) { r.Fields[1].Subs = []api.Sub{sub('A', "x")} }},
	{api.ErrMissing, func(r *api.Record) { r.Fields[2].Subs = []api.Sub{sub('a', "")} }},
	{api.ErrForm, func(r *api.Record) { r.Fields[3].Subs = []api.Sub{sub('a', "\n")} }},
	{api.ErrLong, func(r *api.Record) { r.Fields[4].Subs = []api.Sub{sub('a', strings.Repeat("x", 201))} }},
	{api.ErrRange, func(r *api.Record) { r.Fields[5].Auth = 10000 }},
}

// broken returns a record with one mistake.
func broken(mistake int) (api.Record, api.Errno) {
	r := book(times(7)...)
	wrongRecords[mistake].change(&r)
	return r, wrongRecords[mistake].err
}

// P11.1: every choice of mistakes; the first one counts.
func TestPrintWrong(t *testing.T) {
	for choice := range 1 << len(wrongRecords) {
		r := book(times(7)...)
		want := api.OK
		for i := len(wrongRecords) - 1; i >= 0; i-- {
			if choice&(1<<i) != 0 {
				wrongRecords[i].change(&r)
				want = wrongRecords[i].err
			}
		}
		if got, err := Print(r); err != want || (got == "") != (want != api.OK) {
			t.Fatalf("Print is %q, error %d, not %d, for %s", short(got), int(err), int(want), shown(r))
		}
	}
	for mistake := range wrongRecords {
		r, err := broken(mistake)
		wantPrint(t, r, "", err)
	}
	// The field with the mistake stands at each place.
	for i := range 64 {
		r := book(times(64)...)
		r.Fields[i].Subs = []api.Sub{sub('a', "x"), sub('b', "")}
		wantPrint(t, r, "", api.ErrMissing)
		r.Fields[i].Subs = []api.Sub{sub('a', "x"), sub('b', "\n")}
		wantPrint(t, r, "", api.ErrForm)
	}
}

// P11.1: numbers that are out of their limits, near and far, and every byte in the parts that are no numbers.
func TestPrintRight(t *testing.T) {
	numbers := []int{math.MinInt, math.MinInt + 1, math.MinInt32, -1 << 32, -10000, -9999, -256, -2, -1, 0, 1, 2, 3, 4, 5, 6, 9, 10, 255, 256, 257, 999, 1000, 9998, 9999, 10000, 10001, 65536, 65537,
		math.MaxInt32, 1 << 32, 1<<32 + 1, 1<<32 + 3, math.MaxInt - 1, math.MaxInt}
	for _, n := range numbers {
		for i := range 4 {
			r := dogs()
			*[]*int{&r.ID, &r.Version, &r.Kind, &r.Fields[0].Auth}[i] = n
			wantRight(t, r)
		}
	}
	for c := range 256 {
		s := string([]byte{byte(c)})
		for i := range 7 {
			r := dogs()
			f := &r.Fields[0]
			*[]*string{&r.Lang, &r.Lang, &r.Lang, &f.Tag, &f.Ind, &f.Subs[0].Value, &f.Subs[0].Value}[i] = []string{s + "ng", "e" + s + "g", "en" + s, "24" + s, "1" + s, s, "D" + s + "gs"}[i]
			wantRight(t, r)
		}
		r := dogs()
		r.Fields[0].Subs[0].Code = byte(c)
		wantRight(t, r)
	}
	for _, s := range []string{"", "e", "en", "engl", "eng ", " eng", "ENG", "éng", "én", "0", "00", "0000", "10", "100", "1000", " ", "   "} {
		for i := range 4 {
			r := dogs()
			*[]*string{&r.Lang, &r.Fields[0].Tag, &r.Fields[0].Ind, &r.Fields[0].Subs[0].Value}[i] = s
			wantRight(t, r)
		}
	}
	wantRight(t, api.Record{})
}

// P11.1: many records.
func TestPrintRandom(t *testing.T) {
	for _, r := range someRecords() {
		wantText(t, r)
	}
	random := rand.New(rand.NewSource(111))
	for range 3000 {
		wantText(t, randomRecord(random, 10, 40))
	}
	for range 200 {
		wantText(t, randomRecord(random, 64, 200))
	}
}

// P11.1: what was printed stays as it is, whatever the caller does to the record.
func TestPrintKept(t *testing.T) {
	for _, r := range someRecords() {
		given := roomy(r)
		got, _ := Print(given)
		spoil(given)
		if got != textOf(r) {
			t.Errorf("a change of the record changes its lines, %s", shown(r))
		}
		wantText(t, r)
	}
}
