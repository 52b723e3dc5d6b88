package exchange

import (
	"fmt"
	"math"
	"math/rand"
	"slices"
	"strings"
	"testing"

	"library/api"
	"library/record"
)

// wantEncode compares Encode with what it must return, and checks that the record stays as it was.
func wantEncode(t *testing.T, r api.Record, want string, wantErr api.Errno) {
	t.Helper()
	given := roomy(r)
	same := keeper(given)
	got, err := Encode(given)
	if got != want || err != wantErr {
		t.Errorf("Encode is %q, error %d, not %q, error %d, for %s", short(got), int(err), short(want), int(wantErr), shown(r))
	}
	if !same() {
		t.Errorf("Encode changes what it was given, %s", shown(r))
	}
}

// wantForm compares Encode with the definition, and Decode of it with the record.
func wantForm(t *testing.T, r api.Record) {
	t.Helper()
	s := bytesOf(r)
	wantEncode(t, r, s, api.OK)
	wantDecode(t, s, r)
}

// P10.1: forms that are written out.
func TestEncode(t *testing.T) {
	two := api.Record{ID: 1234, Version: 1, Kind: api.KdMap, Lang: "fra", Fields: []api.Field{
		{Tag: "010", Ind: "  ", Subs: []api.Sub{sub('z', "é"), sub('0', "$ #"), sub('z', "~")}, Auth: 9999},
		{Tag: "999", Ind: " 9", Subs: []api.Sub{sub('9', "中")}, Auth: 40},
	}}
	wantEncode(t, two, "00081nm1fra0004912344500"+"010001900000"+"999001200019"+"\x1e"+"  9999\x1fzé\x1f0$ #\x1fz~\x1e"+" 90040\x1f9中\x1e"+"\x1d", api.OK)
	wantEncode(t, api.Record{ID: 9999, Version: 2, Kind: api.KdSerial, Lang: "aaz"}, "00026ns2aaz0002599994500\x1e\x1d", api.OK)
	wantEncode(t, api.Record{Version: 3, Kind: api.KdDigital, Lang: "zzz", Fields: []api.Field{}}, "00026nd3zzz0002500004500\x1e\x1d", api.OK)
	wantEncode(t, dogs(), dogsForm, api.OK)
}

// P10.1: every kind, version and ID, and languages of all letters.
func TestEncodeLeader(t *testing.T) {
	for kind := 1; kind <= 4; kind++ {
		for version := 1; version <= 3; version++ {
			for id := range 10000 {
				r := api.Record{ID: id, Version: version, Kind: kind, Lang: "eng"}
				want := fmt.Sprintf("00026n%c%deng00025%04d4500\x1e\x1d", " bsmd"[kind], version, id)
				if got, err := Encode(r); got != want || err != api.OK {
					t.Fatalf("Encode is %q, error %d, not %q", got, int(err), want)
				}
				if got, err := Decode(want); !equal(got, r) || err != api.OK {
					t.Fatalf("Decode is %s, error %d, not %s", shown(got), int(err), shown(r))
				}
			}
		}
	}
	for n := range 26 * 26 * 26 {
		r := book(times(1)...)
		r.Lang = string([]byte{byte('a' + n/676), byte('a' + n/26%26), byte('a' + n%26)})
		wantForm(t, r)
	}
}

// P10.1: every tag, pair of indicators, authority and code.
func TestEncodeFields(t *testing.T) {
	for tag := 10; tag <= 999; tag++ {
		wantForm(t, book(with(fmt.Sprintf("%03d", tag), subs(1)...)))
	}
	for _, a := range " 0123456789" {
		for _, b := range " 0123456789" {
			f := with("245", subs(2)...)
			f.Ind = string(a) + string(b)
			wantForm(t, book(f))
		}
	}
	for auth := range 10000 {
		f := with("650", sub('a', "x"))
		f.Auth = auth
		wantForm(t, book(f))
	}
	for _, code := range []byte("abcdefghijklmnopqrstuvwxyz0123456789") {
		wantForm(t, book(with("245", sub(code, "x"), sub('a', "y"), sub(code, "z"))))
	}
}

// P10.1: every number of fields and of subfields.
func TestEncodeNumbers(t *testing.T) {
	for n := range 65 {
		wantForm(t, book(times(n)...))
		wantForm(t, book(slices.Repeat([]api.Field{with("650", sub('a', "x"))}, n)...))
	}
	for n := 1; n <= 16; n++ {
		wantForm(t, book(with("245", subs(n)...)))
		wantForm(t, book(with("245", subs(1)...), with("245", subs(n)...), with("245", subs(17-n)...)))
	}
	full := book()
	for range 64 {
		full.Fields = append(full.Fields, with("245", slices.Repeat([]api.Sub{sub('a', "x")}, 16)...))
	}
	wantForm(t, full)
}

// P10.1: values of every length, of characters with one, two and three bytes, and every character.
func TestEncodeValues(t *testing.T) {
	for n := 1; n <= 200; n++ {
		wantForm(t, book(with("245", sub('a', long(n, "value")))))
		wantForm(t, book(with("245", sub('a', strings.Repeat("x", n)), sub('b', "y")), with("246", sub('a', "z"))))
		if n%2 == 0 {
			wantForm(t, book(with("245", sub('a', strings.Repeat("é", n/2)))))
		}
		if n%3 == 0 {
			wantForm(t, book(with("245", sub('a', strings.Repeat("\uffff", n/3)))))
		}
	}
	for c := rune(0x20); c <= 0xFFFF; c++ {
		if 0x7F <= c && c < 0xA0 || 0xD800 <= c && c < 0xE000 {
			continue
		}
		r := book(with("245", sub('a', string(c))))
		want := "0" + fmt.Sprintf("%04d", 47+len(string(c))) + "nb3eng00037" + "00014500" + fmt.Sprintf("2450%03d00000", 9+len(string(c))) + "\x1e 00000\x1fa" + string(c) + "\x1e\x1d"
		if got, err := Encode(r); got != want || err != api.OK {
			t.Fatalf("Encode is %q, error %d, not %q", got, int(err), want)
		}
		if got, err := Decode(want); !equal(got, r) || err != api.OK {
			t.Fatalf("Decode is %s, error %d, not %s", shown(got), int(err), shown(r))
		}
	}
}

// P10.1: numbers of bytes and places of one digit to four.
func TestEncodeDirectory(t *testing.T) {
	for n := 1; n <= 16; n++ {
		wantForm(t, book(with("245", slices.Repeat([]api.Sub{sub('a', strings.Repeat("x", 200))}, n)...), with("246", sub('a', "y")), with("246", sub('b', "z"))))
	}
	most := slices.Repeat([]api.Sub{sub('a', strings.Repeat("x", 200))}, 16)
	wantForm(t, book(with("245", most...), with("246", most...), with("300", most...), with("500", sub('a', "x")), with("500", sub('a', "y"))))
	for n := 48; n < 9998; n += 13 {
		wantForm(t, sized(n))
	}
	long := strings.Repeat("x", 200)
	got, err := Encode(book(with("245", sub('a', long), sub('a', long), sub('a', long), sub('a', long), sub('a', long)), with("246", sub('a', "y"))))
	want := "01077nb3eng0004900014500" + "245101700000" + "246001001017" + "\x1e" + " 00000" + strings.Repeat("\x1fa"+long, 5) + "\x1e" + " 00000\x1fay\x1e" + "\x1d"
	if err != api.OK || got != want {
		t.Errorf("Encode of long fields is %q .. %q, error %d", short(got), got[max(0, len(got)-30):], int(err))
	}
}

// P10.1: the greatest number of bytes, and more of them.
func TestEncodeLong(t *testing.T) {
	for n := 9990; n <= 10300; n++ {
		r := sized(n)
		s := bytesOf(r)
		if len(s) != n {
			t.Fatalf("the record has %d bytes, not %d", len(s), n)
		}
		if n <= 9999 {
			wantForm(t, r)
			continue
		}
		wantEncode(t, r, "", api.ErrLong)
		r.ID = 10000
		wantEncode(t, r, "", api.ErrRange)
		r.ID = 9999
		r.Fields[len(r.Fields)-1].Subs[0].Value = ""
		wantEncode(t, r, "", api.ErrMissing)
		wantDecode(t, s, api.Record{})
	}
	most := slices.Repeat([]api.Sub{sub('a', strings.Repeat("x", 200))}, 16)
	for n := 1; n <= 64; n++ {
		r := book(slices.Repeat([]api.Field{with("245", most...)}, n)...)
		if n <= 3 {
			wantForm(t, r)
			continue
		}
		wantEncode(t, r, "", api.ErrLong)
		r.Version = 4
		wantEncode(t, r, "", api.ErrVersion)
	}
}

// P10.1: a record that is too long by characters of several bytes alone.
func TestEncodeLongBytes(t *testing.T) {
	// 40 fields of 21 bytes and a value: 26 + 40*21 + values.
	for _, c := range []struct {
		char  string
		count int
		want  api.Errno
	}{{"x", 100, api.OK}, {"é", 100, api.OK}, {"\uffff", 66, api.OK}, {"x", 200, api.OK}} {
		r := book(slices.Repeat([]api.Field{with("245", sub('a', strings.Repeat(c.char, c.count)))}, 40)...)
		wantEncode(t, r, bytesOf(r), c.want)
	}
	r := book(slices.Repeat([]api.Field{with("245", sub('a', strings.Repeat("é", 100)))}, 46)...)
	wantEncode(t, r, "", api.ErrLong)
}

// wrongRecords are records with one mistake each, in the order in which record.Right looks for them.
var wrongRecords = []struct {
	err    api.Errno
	change func(r *api.Record)
}{
	{api.ErrRange, func(r *api.Record) { r.ID = 10000 }},
	{api.ErrVersion, func(r *api.Record) { r.Version = 4 }},
	{api.ErrArg, func(r *api.Record) { r.Kind = 5 }},
	{api.ErrForm, func(r *api.Record) { r.Lang = "en" }},
	{api.ErrLong, func(r *api.Record) { r.Fields = append(r.Fields, make([]api.Field, 65)...) }},
	{api.ErrTag, func(r *api.Record) { r.Fields[0].Tag = "009" }},
	{api.ErrForm, func(r *api.Record) { r.Fields[0].Ind = "1" }},
	{api.ErrMissing, func(r *api.Record) { r.Fields[0].Subs = nil }},
	{api.ErrArg, func(r *api.Record) { r.Fields[1].Subs = []api.Sub{sub('A', "x")} }},
	{api.ErrMissing, func(r *api.Record) { r.Fields[2].Subs = []api.Sub{sub('a', "")} }},
	{api.ErrForm, func(r *api.Record) { r.Fields[3].Subs = []api.Sub{sub('a', "\x1f")} }},
	{api.ErrLong, func(r *api.Record) { r.Fields[4].Subs = []api.Sub{sub('a', strings.Repeat("x", 201))} }},
	{api.ErrRange, func(r *api.Record) { r.Fields[5].Auth = -1 }},
}

// P10.1: every choice of mistakes; the first one counts, also in records that are too long.
func TestEncodeWrong(t *testing.T) {
	most := slices.Repeat([]api.Sub{sub('a', strings.Repeat("x", 200))}, 16)
	for choice := range 1 << len(wrongRecords) {
		for _, r := range []api.Record{book(times(7)...), book(append(times(7), with("245", most...), with("245", most...), with("245", most...), with("245", most...))...)} {
			want := api.OK
			for i := len(wrongRecords) - 1; i >= 0; i-- {
				if choice&(1<<i) != 0 {
					wrongRecords[i].change(&r)
					want = wrongRecords[i].err
				}
			}
			if want == api.OK && len(r.Fields) > 7 {
				want = api.ErrLong
			}
			if got, err := Encode(r); err != want || (got == "") != (want != api.OK) {
				t.Fatalf("Encode is %q, error %d, not %d, for %s", short(got), int(err), int(want), shown(r))
			}
		}
	}
}

// P10.1: numbers that are out of their limits, near and far, and every byte in the parts that are no numbers.
func TestEncodeRight(t *testing.T) {
	numbers := []int{math.MinInt, math.MinInt + 1, math.MinInt32, -1 << 32, -10000, -9999, -256, -2, -1, 0, 1, 2, 3, 4, 5, 6, 9, 10, 255, 256, 257, 999, 1000, 9998, 9999, 10000, 10001, 65536, 65537,
		math.MaxInt32, 1 << 32, 1<<32 + 1, 1<<32 + 3, math.MaxInt - 1, math.MaxInt}
	for _, n := range numbers {
		for i := range 4 {
			r := dogs()
			*[]*int{&r.ID, &r.Version, &r.Kind, &r.Fields[0].Auth}[i] = n
			wantEncodeRight(t, r)
		}
	}
	for c := range 256 {
		for i := range 7 {
			r := dogs()
			s := string([]byte{byte(c)})
			switch i {
			case 0:
				r.Lang = "e" + s + "g"
			case 1:
				r.Fields[0].Tag = s + "45"
			case 2:
				r.Fields[0].Tag = "24" + s
			case 3:
				r.Fields[0].Ind = s + "0"
			case 4:
				r.Fields[0].Ind = "1" + s
			case 5:
				r.Fields[0].Subs[0].Code = byte(c)
			case 6:
				r.Fields[0].Subs[0].Value = "D" + s + "gs"
			}
			wantEncodeRight(t, r)
		}
	}
	for _, s := range []string{"", "e", "en", "engl", "eng ", "ENG", "0", "00", "0000", "10", "100", "1000", " ", "   "} {
		for i := range 4 {
			r := dogs()
			*[]*string{&r.Lang, &r.Fields[0].Tag, &r.Fields[0].Ind, &r.Fields[0].Subs[0].Value}[i] = s
			wantEncodeRight(t, r)
		}
	}
}

// wantEncodeRight compares Encode with record.Right, for a record that is not too long.
func wantEncodeRight(t *testing.T, r api.Record) {
	t.Helper()
	if err := record.Right(r); err != api.OK {
		wantEncode(t, r, "", err)
	} else {
		wantForm(t, r)
	}
}

// P10.1: many records.
func TestEncodeRandom(t *testing.T) {
	for _, r := range someRecords() {
		wantForm(t, r)
	}
	random := rand.New(rand.NewSource(101))
	for range 5000 {
		wantForm(t, randomRecord(random, 10, 40))
	}
	for range 500 {
		r := randomRecord(random, 64, 200)
		if s := bytesOf(r); len(s) > 9999 {
			wantEncode(t, r, "", api.ErrLong)
		} else {
			wantForm(t, r)
		}
	}
}

// P10.1: what was encoded stays as it is, whatever the caller does to the record.
func TestEncodeKept(t *testing.T) {
	for _, r := range someRecords() {
		given := roomy(r)
		got, _ := Encode(given)
		spoil(given)
		if got != bytesOf(r) {
			t.Errorf("a change of the record changes its form, %s", shown(r))
		}
	}
}
