package exchange

import (
	"fmt"
	"math/rand"
	"slices"
	"strings"
	"testing"

	"library/api"
)

// wantImport compares Import with what it must return.
func wantImport(t *testing.T, s string, want []api.Record, wantAt int, wantErr api.Errno) {
	t.Helper()
	got, at, err := Import(s)
	if err != wantErr || at != wantAt || !slices.EqualFunc(got, want, equal) {
		t.Errorf("Import of %q is %d records, %d, error %d, not %d records, %d, error %d", short(s), len(got), at, int(err), len(want), wantAt, int(wantErr))
	}
}

// importOf returns what the document says that Import returns.
func importOf(s string) ([]api.Record, int, api.Errno) {
	list, err := splitOf(s)
	if err != api.OK {
		return nil, -1, err
	}
	if len(list) > 64 {
		return nil, -1, api.ErrFull
	}
	var records []api.Record
	for i, x := range list {
		r, ok := recordOf(x)
		if !ok {
			return nil, i, api.ErrForm
		}
		records = append(records, r)
	}
	return records, -1, api.OK
}

// wantImportOf compares Import with the definition, and what P10.7 says of its records.
func wantImportOf(t *testing.T, s string) {
	t.Helper()
	want, at, err := importOf(s)
	wantImport(t, s, want, at, err)
	if err == api.OK && fileOf(want) != s {
		t.Errorf("the records of %q have other bytes", short(s))
	}
}

// forms returns the forms of n records.
func forms(n int) []string {
	var list []string
	for _, r := range many(n) {
		list = append(list, bytesOf(r))
	}
	return list
}

// P10.5: no records, one, and many of them.
func TestImport(t *testing.T) {
	wantImport(t, "", nil, -1, api.OK)
	wantImport(t, dogsForm, []api.Record{dogs()}, -1, api.OK)
	wantImport(t, dogsForm+"00026nb3eng0002500014500\x1e\x1d"+dogsForm, []api.Record{dogs(), book(), dogs()}, -1, api.OK)
	for n := range 65 {
		wantImport(t, strings.Join(forms(n), ""), many(n), -1, api.OK)
		wantImport(t, strings.Repeat(dogsForm, n), slices.Repeat([]api.Record{dogs()}, n), -1, api.OK)
	}
	for n := 65; n < 150; n++ {
		wantImport(t, strings.Join(forms(n), ""), nil, -1, api.ErrFull)
	}
	for _, r := range someRecords() {
		wantImport(t, bytesOf(r), []api.Record{r}, -1, api.OK)
		wantImport(t, bytesOf(r)+dogsForm+bytesOf(r), []api.Record{r, dogs(), r}, -1, api.OK)
	}
}

// P10.5: a file can have more bytes than Export returns.
func TestImportLong(t *testing.T) {
	for _, n := range []int{6, 7, 8, 63, 64} {
		wantImport(t, strings.Repeat(bytesOf(sized(9999)), n), slices.Repeat([]api.Record{sized(9999)}, n), -1, api.OK)
	}
	wantImport(t, strings.Repeat(bytesOf(sized(9999)), 65), nil, -1, api.ErrFull)
	wantImport(t, dogsForm+bytesOf(sized(10000)), nil, 1, api.ErrForm)
}

// P10.5: one or two parts that are no record, at every place; the first one counts.
func TestImportWrong(t *testing.T) {
	wrong := []string{part(26, "x"), strings.Replace(dogsForm, "nb", "nx", 1), strings.Replace(dogsForm, "Dogs", "Do\x1ds", 1), strings.Replace(dogsForm, "eng", "Eng", 1), strings.Replace(dogsForm, "245", "009", 1),
		bytesOf(sized(10000)), part(99999, "0")}
	for _, n := range []int{1, 2, 3, 5, 63, 64, 65, 66, 100} {
		for i := range n {
			for k, x := range wrong {
				list := forms(n)
				list[i] = x
				at, err := i, api.ErrForm
				if n > 64 {
					at, err = -1, api.ErrFull
				}
				wantImport(t, strings.Join(list, ""), nil, at, err)
				j := (i*7 + k) % n
				list[j] = wrong[(k+1)%len(wrong)]
				wantImport(t, strings.Join(list, ""), nil, min(at, j), err)
			}
		}
	}
}

// P10.5: an error of Split at every place counts before everything else, also with too many parts and with parts that are no record.
func TestImportSplit(t *testing.T) {
	for _, n := range []int{0, 1, 2, 3, 63, 64, 65, 66} {
		for i := range n + 1 {
			for _, x := range []string{"x", "0", "00000", "00025", part(25, "x"), "0002", "00026", "+0026" + part(21, "x"), "99999"} {
				list := slices.Insert(forms(n), i, x)
				file := strings.Join(list, "")
				if _, err := splitOf(file); err == api.OK {
					continue
				}
				wantImport(t, file, nil, -1, api.ErrForm)
				if n > 0 {
					list[0] = strings.Replace(list[0], "n", "x", 1)
					wantImport(t, strings.Join(list, ""), nil, -1, api.ErrForm)
				}
			}
		}
	}
}

// P10.5: files in which one byte is changed, left out or put in, and files that are cut, at every place.
func TestImportChanged(t *testing.T) {
	file := dogsForm + bytesOf(book(times(2)...)) + bytesOf(book()) + dogsForm
	for i := range len(file) {
		wantImportOf(t, file[:i])
		wantImportOf(t, file[i:])
		wantImportOf(t, file[:i]+file[i+1:])
		for c := range 256 {
			x := string([]byte{byte(c)})
			wantImportOf(t, file[:i]+x+file[i+1:])
			wantImportOf(t, file[:i]+x+file[i:])
		}
	}
}

// P10.5: texts of 0 to 30 bytes, and longer ones, of every kind.
func TestImportTexts(t *testing.T) {
	for n := range 31 {
		for c := range 256 {
			wantImportOf(t, strings.Repeat(string([]byte{byte(c)}), n))
			wantImportOf(t, (fmt.Sprintf("%05d", n) + strings.Repeat(string([]byte{byte(c)}), n))[:n])
		}
	}
	random := rand.New(rand.NewSource(109))
	for range 50000 {
		b := make([]byte, random.Intn(80))
		random.Read(b)
		if random.Intn(2) == 0 {
			copy(b, fmt.Sprintf("%05d", len(b)))
		}
		wantImportOf(t, string(b))
		wantImportOf(t, dogsForm+string(b))
	}
}

// P10.5: a wrong file leaves nothing for the next call, and records that were returned belong to the caller.
func TestImportKept(t *testing.T) {
	file, want := strings.Join(forms(10), ""), many(10)
	first, _, _ := Import(file)
	wantImport(t, file+dogsForm[:50]+" "+dogsForm, nil, 10, api.ErrForm)
	wantImport(t, file+strings.Replace(dogsForm, "nb", "n ", 1), nil, 10, api.ErrForm)
	wantImport(t, file+"x", nil, -1, api.ErrForm)
	second, _, _ := Import(file)
	if !slices.EqualFunc(first, want, equal) || !slices.EqualFunc(second, want, equal) {
		t.Error("Import a second time returns other records")
	}
	for _, r := range first {
		spoil(r)
	}
	clear(first[:cap(first)])
	if !slices.EqualFunc(second, want, equal) {
		t.Error("two lists that Import returned share their memory")
	}
	for i := range second {
		_ = append(second[i].Fields, with("999", sub('!', "!")))
	}
	if !slices.EqualFunc(second, want, equal) {
		t.Error("the records of one list share their memory")
	}
	wantImport(t, file, want, -1, api.OK)
}
