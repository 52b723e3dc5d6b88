package exchange

import (
	"fmt"
	"math/rand"
	"regexp"
	"slices"
	"strings"
	"testing"

	"library/api"
)

// fiveDigits is what a part of a file begins with.
var fiveDigits = regexp.MustCompile(`^[0-9]{5}`)

// splitOf returns what the document says that Split returns.
func splitOf(s string) ([]string, api.Errno) {
	var list []string
	for len(s) > 0 {
		head := fiveDigits.FindString(s)
		if head == "" || asNumber(head) < 26 || asNumber(head) > len(s) {
			return nil, api.ErrForm
		}
		list = append(list, s[:asNumber(head)])
		s = s[asNumber(head):]
	}
	return list, api.OK
}

// wantSplit compares Split with what it must return.
func wantSplit(t *testing.T, s string, want []string, wantErr api.Errno) {
	t.Helper()
	got, err := Split(s)
	if err != wantErr || !slices.Equal(got, want) {
		t.Errorf("Split of %q is %d parts %s, error %d, not %d parts %s, error %d", short(s), len(got), short(fmt.Sprintf("%q", got)), int(err), len(want), short(fmt.Sprintf("%q", want)), int(wantErr))
	}
}

// wantSplitOf compares Split with the definition, and what P10.7 says of its parts.
func wantSplitOf(t *testing.T, s string) {
	t.Helper()
	want, err := splitOf(s)
	wantSplit(t, s, want, err)
	if got, err := Split(s); err == api.OK && strings.Join(got, "") != s {
		t.Errorf("the parts of %q are another file, %q", short(s), short(strings.Join(got, "")))
	}
}

// part returns a part of a file with n bytes, which are no record.
func part(n int, fill string) string {
	return (fmt.Sprintf("%05d", n) + strings.Repeat(fill, n))[:n]
}

// P10.3: parts that are written out.
func TestSplit(t *testing.T) {
	wantSplit(t, "", nil, api.OK)
	a, b, c := "00026"+"nb3eng0002500004500"+"\x1e\x1d", "00026"+strings.Repeat("\x00", 21), "00030"+strings.Repeat("00031", 5)
	wantSplit(t, a, []string{a}, api.OK)
	wantSplit(t, a+b, []string{a, b}, api.OK)
	wantSplit(t, b+c+a, []string{b, c, a}, api.OK)
	wantSplit(t, dogsForm+dogsForm+dogsForm, []string{dogsForm, dogsForm, dogsForm}, api.OK)
	wantSplit(t, strings.Repeat("00026x", 6)[:26], []string{strings.Repeat("00026x", 6)[:26]}, api.OK)
	for _, s := range []string{"0", "00", "0026", "00026", "00000", "00001", "00025", "00025" + strings.Repeat("x", 20), "00025" + strings.Repeat("x", 30), "00005", "00004x", "00000" + a, "x" + a, a + "x", a + "\n", a + "0", "99999"} {
		wantSplit(t, s, nil, api.ErrForm)
	}
}

// P10.3: each number up to the bytes that are left, and above, in the first and in the last part.
func TestSplitNumbers(t *testing.T) {
	for _, before := range []string{"", dogsForm, part(26, "x"), part(26, "x") + part(40, "0")} {
		list, _ := splitOf(before)
		for left := 5; left <= 120; left++ {
			for n := range 160 {
				s := before + (fmt.Sprintf("%05d", n) + strings.Repeat("z", left))[:left]
				if 26 <= n && n == left {
					wantSplit(t, s, append(slices.Clone(list), s[len(before):]), api.OK)
				} else {
					// What is left behind a shorter part begins with no digit.
					wantSplit(t, s, nil, api.ErrForm)
				}
			}
		}
	}
}

// P10.3: numbers with all digits, and what is less and more by one.
func TestSplitGreat(t *testing.T) {
	for _, n := range []int{26, 27, 99, 100, 999, 1000, 9998, 9999, 10000, 10001, 32767, 32768, 65535, 65536, 65537, 90000, 99998, 99999} {
		for _, fill := range []string{"x", "0", "\x1d", "\x80"} {
			s := part(n, fill)
			wantSplit(t, s, []string{s}, api.OK)
			wantSplit(t, s[:n-1], nil, api.ErrForm)
			wantSplit(t, s+"x", nil, api.ErrForm)
			wantSplit(t, s+s, []string{s, s}, api.OK)
			wantSplit(t, dogsForm+s+dogsForm, []string{dogsForm, s, dogsForm}, api.OK)
			wantSplit(t, dogsForm+s[:n-1], nil, api.ErrForm)
		}
	}
}

// P10.3: every byte as each of the first five ones, in the first part, in a middle and in the last one.
func TestSplitDigits(t *testing.T) {
	a := part(26, "x")
	for c := range 256 {
		for i := range 5 {
			for _, around := range [][2]string{{"", ""}, {"", a}, {a, ""}, {a + a, a}, {dogsForm, dogsForm}} {
				for _, s := range []string{a, dogsForm, part(30000, "y"), part(11111, "11111")} {
					b := []byte(s)
					b[i] = byte(c)
					file := around[0] + string(b) + around[1]
					wantSplitOf(t, file)
					if got, err := Split(file); (c < '0' || c > '9') && (err != api.ErrForm || len(got) != 0) {
						t.Fatalf("Split of %q is error %d", short(file), int(err))
					}
				}
			}
		}
	}
	for _, head := range []string{"+0026", "-0026", " 0026", "0026 ", "   26", "26   ", "00 26", "0x01a", "1e002", "0026.", "0_026", "٢٦", "00026"[:4] + "\x00"} {
		wantSplit(t, head+strings.Repeat("x", 26-len(head)), nil, api.ErrForm)
		wantSplit(t, a+head+strings.Repeat("x", 26-len(head)), nil, api.ErrForm)
	}
}

// P10.3: bytes that are no digits, in files whose lengths are the numbers that they would denote if they were.
func TestSplitNoDigits(t *testing.T) {
	for c := range 256 {
		if '0' <= c && c <= '9' {
			continue
		}
		for i, power := range []int{10000, 1000, 100, 10, 1} {
			for _, digit := range []int{c - '0', int(byte(c) - '0'), c & 15, c % 10, int(int8(c - '0')), (c - '0') & 15, c, 0} {
				for _, head := range []string{"00026", "00039", "00130", "01026", "10026", "20000", "00000", "11111"} {
					n := asNumber(head) + power*(digit-int(head[i]-'0'))
					if n < 5 || n > 100000 {
						continue
					}
					s := head[:i] + string([]byte{byte(c)}) + head[i+1:] + strings.Repeat("x", n-5)
					wantSplit(t, s, nil, api.ErrForm)
					wantSplit(t, part(26, "x")+s, nil, api.ErrForm)
				}
			}
		}
	}
}

// P10.3: files with many parts, cut at every place.
func TestSplitCut(t *testing.T) {
	file, ends := "", map[int]int{0: 0}
	for i, s := range []string{dogsForm, part(26, "x"), part(27, "0"), bytesOf(book(times(3)...)), part(26, "\xff"), dogsForm} {
		file += s
		ends[len(file)] = i + 1
	}
	whole, _ := Split(file)
	for i := range len(file) + 1 {
		if n, ok := ends[i]; ok {
			wantSplit(t, file[:i], whole[:n], api.OK)
			wantSplit(t, file[i:], whole[n:], api.OK)
		} else {
			wantSplit(t, file[:i], nil, api.ErrForm)
			wantSplitOf(t, file[i:])
		}
		for _, x := range []string{"x", "0", " ", "\x1d", "\x1e"} {
			wantSplitOf(t, file[:i]+x+file[i:])
		}
	}
	for n := range 300 {
		wantSplit(t, strings.Repeat(part(26, "x"), n), slices.Repeat([]string{part(26, "x")}, n), api.OK)
		wantSplit(t, strings.Repeat(part(26, "x"), n)+"0", nil, api.ErrForm)
	}
}

// P10.3: Split looks at the first five bytes of a part alone.
func TestSplitContents(t *testing.T) {
	for i := 5; i < len(dogsForm); i++ {
		for c := range 256 {
			b := []byte(dogsForm)
			b[i] = byte(c)
			wantSplit(t, string(b)+dogsForm, []string{string(b), dogsForm}, api.OK)
		}
	}
	random := rand.New(rand.NewSource(105))
	for range 2000 {
		var list []string
		for range random.Intn(5) {
			b := make([]byte, 26+random.Intn(40))
			random.Read(b)
			copy(b, fmt.Sprintf("%05d", len(b)))
			list = append(list, string(b))
		}
		wantSplit(t, strings.Join(list, ""), list, api.OK)
	}
}

// P10.3, P10.7: many files, right and wrong.
func TestSplitRandom(t *testing.T) {
	random := rand.New(rand.NewSource(106))
	for range 20000 {
		file := ""
		for range random.Intn(6) {
			n := 20 + random.Intn(40)
			file += part(n, []string{"x", "0", "00026", "\x1d"}[random.Intn(4)])
			if random.Intn(20) == 0 {
				file = file[:len(file)-1]
			}
		}
		wantSplitOf(t, file)
	}
	for range 20000 {
		b := make([]byte, random.Intn(120))
		for i := range b {
			b[i] = "0000000000002345689x"[random.Intn(20)]
		}
		wantSplitOf(t, string(b))
	}
}

// P10.3: the list that was returned belongs to the caller.
func TestSplitKept(t *testing.T) {
	file := strings.Repeat(dogsForm, 5)
	first, _ := Split(file)
	second, _ := Split(file)
	clear(first[:cap(first)])
	if !slices.Equal(second, slices.Repeat([]string{dogsForm}, 5)) {
		t.Error("two lists that Split returned share their memory")
	}
	wantSplit(t, "x", nil, api.ErrForm)
	wantSplit(t, file, second, api.OK)
}
