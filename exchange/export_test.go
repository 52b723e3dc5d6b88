package exchange

import (
	"fmt"
	"math/rand"
	"slices"
	"strings"
	"testing"

	"library/api"
)

// wantExport compares Export with what it must return, and checks that the records stay as they were.
func wantExport(t *testing.T, l []api.Record, want string, wantErr api.Errno) {
	t.Helper()
	given := roomyList(l)
	same := keeper(given...)
	got, err := Export(given)
	if got != want || err != wantErr {
		t.Errorf("Export of %d records is %d bytes %q, error %d, not %d bytes %q, error %d", len(l), len(got), short(got), int(err), len(want), short(want), int(wantErr))
	}
	if !same() {
		t.Errorf("Export changes what it was given, %d records", len(l))
	}
}

// fileOf returns the bytes of all records.
func fileOf(l []api.Record) string {
	file := ""
	for _, r := range l {
		file += bytesOf(r)
	}
	return file
}

// many returns n records, each of which tells by its ID which one it is.
func many(n int) []api.Record {
	var list []api.Record
	for i := range n {
		r := book(times(i % 3)...)
		r.ID = i
		list = append(list, r)
	}
	return list
}

// P10.4: no records, one, and many of them.
func TestExport(t *testing.T) {
	wantExport(t, nil, "", api.OK)
	wantExport(t, []api.Record{}, "", api.OK)
	wantExport(t, []api.Record{dogs()}, dogsForm, api.OK)
	wantExport(t, []api.Record{dogs(), book(), dogs()}, dogsForm+"00026nb3eng0002500014500\x1e\x1d"+dogsForm, api.OK)
	for n := range 65 {
		wantExport(t, many(n), fileOf(many(n)), api.OK)
		wantExport(t, slices.Repeat([]api.Record{book()}, n), strings.Repeat(bytesOf(book()), n), api.OK)
	}
	for n := 65; n < 200; n++ {
		wantExport(t, many(n), "", api.ErrFull)
	}
	for _, r := range someRecords() {
		wantExport(t, []api.Record{r}, bytesOf(r), api.OK)
		wantExport(t, []api.Record{dogs(), r}, dogsForm+bytesOf(r), api.OK)
	}
}

// broken returns records, one of which has a mistake; some of the mistakes are that the record is too long.
func broken(l []api.Record, at, mistake int) ([]api.Record, api.Errno) {
	l = slices.Clone(l)
	if mistake == len(wrongRecords) {
		l[at] = sized(10000)
		return l, api.ErrLong
	}
	r := book(times(7)...)
	wrongRecords[mistake].change(&r)
	l[at] = r
	return l, wrongRecords[mistake].err
}

// P10.4: each mistake in the first, a middle and the last record, and two in two records; with more than MaxRecords records none of them counts.
func TestExportWrong(t *testing.T) {
	mistakes := len(wrongRecords) + 1
	for _, n := range []int{1, 2, 3, 63, 64, 65} {
		for _, at := range []int{0, n / 2, n - 1} {
			for mistake := range mistakes {
				l, want := broken(many(n), at, mistake)
				if n > 64 {
					want = api.ErrFull
				}
				wantExport(t, l, "", want)
			}
		}
	}
	for first := range mistakes {
		for second := range mistakes {
			for _, at := range [][2]int{{0, 1}, {1, 2}, {0, 3}, {2, 3}} {
				l, want := broken(many(4), at[0], first)
				l, _ = broken(l, at[1], second)
				wantExport(t, l, "", want)
			}
		}
	}
}

// filled returns records that have n bytes in all, with at most 9999 each.
func filled(n int) []api.Record {
	var list []api.Record
	for n > 0 {
		size := min(n, 9999)
		if rest := n - size; rest > 0 && rest < 48 {
			size -= 48
		}
		list = append(list, sized(size))
		n -= size
	}
	return list
}

// P10.4: the greatest number of bytes, and more of them.
func TestExportLong(t *testing.T) {
	for n := 65500; n <= 65600; n++ {
		l := filled(n)
		file := fileOf(l)
		if len(file) != n {
			t.Fatalf("the records have %d bytes, not %d", len(file), n)
		}
		if n <= 65536 {
			wantExport(t, l, file, api.OK)
			wantImport(t, file, l, -1, api.OK)
		} else {
			wantExport(t, l, "", api.ErrLong)
		}
	}
	for n := 1; n <= 66; n++ {
		l := slices.Repeat([]api.Record{sized(9999)}, n)
		switch {
		case n <= 6:
			wantExport(t, l, fileOf(l), api.OK)
		case n <= 64:
			wantExport(t, l, "", api.ErrLong)
		default:
			wantExport(t, l, "", api.ErrFull)
		}
	}
	// 64 records of 1024 bytes are the greatest file, too.
	l := slices.Repeat([]api.Record{sized(1024)}, 64)
	wantExport(t, l, fileOf(l), api.OK)
	for _, i := range []int{0, 31, 63} {
		l := slices.Clone(l)
		l[i] = sized(1025)
		wantExport(t, l, "", api.ErrLong)
		l[i] = sized(1023)
		wantExport(t, l, fileOf(l), api.OK)
	}
}

// P10.4: a wrong record counts before the length, also if it stands behind too many bytes.
func TestExportLongWrong(t *testing.T) {
	for _, n := range []int{7, 8, 63} {
		for _, at := range []int{0, n / 2, n - 1} {
			for mistake := range len(wrongRecords) + 1 {
				l, want := broken(slices.Repeat([]api.Record{sized(9999)}, n), at, mistake)
				wantExport(t, append(l, dogs()), "", want)
			}
		}
	}
}

// P10.6: many lists: Split of Export are the Encodes, and Import of Export are the records.
func TestExportBack(t *testing.T) {
	random := rand.New(rand.NewSource(107))
	for i := range 400 {
		var l []api.Record
		var forms []string
		for range random.Intn(65) {
			r := randomRecord(random, 1+i%6, 20)
			s, err := Encode(r)
			if err != api.OK {
				t.Fatalf("Encode is error %d for %s", int(err), shown(r))
			}
			l, forms = append(l, r), append(forms, s)
		}
		file, err := Export(l)
		if err != api.OK || file != strings.Join(forms, "") {
			t.Fatalf("Export of %d records is error %d", len(l), int(err))
		}
		wantSplit(t, file, forms, api.OK)
		wantImport(t, file, l, -1, api.OK)
	}
}

// P10.6: Decode of Encode is the record; P10.7: and Encode of it is the form again.
func TestEncodeBack(t *testing.T) {
	random := rand.New(rand.NewSource(108))
	seen := map[string]string{}
	for range 20000 {
		r := randomRecord(random, 4, 6)
		s, err := Encode(r)
		back, backErr := Decode(s)
		again, againErr := Encode(back)
		if err != api.OK || backErr != api.OK || againErr != api.OK || !equal(back, r) || again != s {
			t.Fatalf("Decode of Encode is %s, not %s", shown(back), shown(r))
		}
		name := fmt.Sprintf("%#v", r)
		if other, ok := seen[s]; ok && other != name {
			t.Fatalf("two records have the form %q", s)
		}
		seen[s] = name
	}
}
