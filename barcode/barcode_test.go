package barcode

import (
	"fmt"
	"math"
	"math/rand"
	"regexp"
	"strconv"
	"strings"
	"testing"

	"library/api"
)

// far are numbers that are far from any kind and any number of a barcode; those near 2^32 and 2^63 are near again if they wrap around.
var far = []int{
	math.MinInt, math.MinInt + 1, math.MinInt + 2, math.MinInt + 3, math.MinInt32, -1 << 32, -1<<32 + 2, -api.MaxID, -100, -10, -3, -2,
	2 * api.MaxID, 100000, 999999999999, math.MaxInt32, 1 << 32, 1<<32 + 2, 1<<32 + 3, math.MaxInt - 1, math.MaxInt,
}

// others are characters other than digits, X, hyphens and blanks, which some programs take for one of them.
var others = []string{
	"\x00", "\t", "\n", "\r", "!", "+", ".", "/", ":", "A", "W", "Y", "_", "x", "~", "\x7f", "\x80", "\xb0", "\xb9", "\xad", "\xff",
	"\u00a0", "\u00ad", "\u00b2", "\u0660", "\u0663", "\u2003", "\u2010", "\u2011", "\u2013", "\u2212", "\u2169", "\uff10", "\uff13", "\uff38", "\U0001d7d0",
}

// The shapes that the document describes.
var (
	luhnShape    = regexp.MustCompile(`\A[0-9]{1,20}\z`)
	barcodeShape = regexp.MustCompile(`\A[23][0-9]{13}\z`)
	shortShape   = regexp.MustCompile(`\A[0-9]{9}[0-9X]\z`)
	longShape    = regexp.MustCompile(`\A97[89][0-9]{10}\z`)
	issnShape    = regexp.MustCompile(`\A[0-9]{4}-?[0-9]{3}[0-9X]\z`)
)

// numbers returns what the characters of a number count.
func numbers(s string) []int {
	var list []int
	for _, c := range []byte(s) {
		list = append(list, strings.IndexByte("0123456789X", c))
	}
	return list
}

// dot returns the sum of what the characters of a number count, each times its weight.
func dot(s string, weights ...int) int {
	sum := 0
	for i, n := range numbers(s) {
		sum += n * weights[i]
	}
	return sum
}

// sumOf returns the sum of which the document says that it is a multiple of 10, for digits with their check digit.
func sumOf(s string) int {
	doubled := []int{0, 2, 4, 6, 8, 1, 3, 5, 7, 9}
	sum, list := 0, numbers(s)
	for i := range list {
		n := list[len(list)-1-i]
		if i%2 == 1 {
			n = doubled[n]
		}
		sum += n
	}
	return sum
}

// completed returns the digit that, appended to a number, makes a sum of it a multiple of 10.
func completed(t *testing.T, s string, sum func(string) int) string {
	t.Helper()
	found := ""
	for _, d := range strings.Split("0123456789", "") {
		if sum(s+d)%10 == 0 {
			found += d
		}
	}
	if len(found) != 1 {
		t.Fatalf("the last digits of %q are %q, not one", s, found)
	}
	return found
}

// shortSum, longSum and issnSum are the sums of book numbers and serial numbers.
func shortSum(s string) int { return dot(s, 10, 9, 8, 7, 6, 5, 4, 3, 2, 1) }
func longSum(s string) int  { return dot(s, 1, 3, 1, 3, 1, 3, 1, 3, 1, 3, 1, 3, 1) }
func issnSum(s string) int  { return dot(s, 8, 7, 6, 5, 4, 3, 2, 1) }

// checkLuhn compares Luhn with what the document says.
func checkLuhn(t *testing.T, s string) {
	t.Helper()
	want, wantErr := 0, api.ErrForm
	if luhnShape.MatchString(s) {
		want, wantErr = numbers(completed(t, s, sumOf))[0], api.OK
	}
	if n, err := Luhn(s); n != want || err != wantErr {
		t.Errorf("Luhn(%q) is %d, error %d, not %d, error %d", s, n, int(err), want, int(wantErr))
	}
}

// checkMake compares Make with what the document says.
func checkMake(t *testing.T, kind, n int) {
	t.Helper()
	want, wantErr := "", api.OK
	switch {
	case kind != 2 && kind != 3:
		wantErr = api.ErrArg
	case n < 0 || n > 9999:
		wantErr = api.ErrRange
	default:
		want = fmt.Sprintf("%d%012d", kind, n)
		want += completed(t, want, sumOf)
	}
	if s, err := Make(kind, n); s != want || err != wantErr {
		t.Errorf("Make(%d, %d) is %q, error %d, not %q, error %d", kind, n, s, int(err), want, int(wantErr))
	}
}

// wantParse compares Parse with what it must return.
func wantParse(t *testing.T, s string, wantKind, want int, wantErr api.Errno) {
	t.Helper()
	if kind, n, err := Parse(s); kind != wantKind || n != want || err != wantErr {
		t.Errorf("Parse(%q) is %d, %d, error %d, not %d, %d, error %d", s, kind, n, int(err), wantKind, want, int(wantErr))
	}
}

// checkParse compares Parse with what the document says.
func checkParse(t *testing.T, s string) {
	t.Helper()
	if !barcodeShape.MatchString(s) {
		wantParse(t, s, 0, 0, api.ErrForm)
		return
	}
	if sumOf(s)%10 != 0 {
		wantParse(t, s, 0, 0, api.ErrSum)
		return
	}
	n, err := strconv.Atoi(s[1:13])
	if err != nil {
		t.Fatal(err)
	}
	if n > 9999 {
		wantParse(t, s, 0, 0, api.ErrRange)
		return
	}
	wantParse(t, s, numbers(s)[0], n, api.OK)
}

// wantIsbn compares Isbn with what it must return.
func wantIsbn(t *testing.T, s, want string, wantErr api.Errno) {
	t.Helper()
	if got, err := Isbn(s); got != want || err != wantErr {
		t.Errorf("Isbn(%q) is %q, error %d, not %q, error %d", s, got, int(err), want, int(wantErr))
	}
}

// checkIsbn compares Isbn with what the document says.
func checkIsbn(t *testing.T, s string) {
	t.Helper()
	left := strings.Map(func(c rune) rune {
		if c == '-' || c == ' ' {
			return -1
		}
		return c
	}, s)
	switch {
	case shortShape.MatchString(left) && shortSum(left)%11 == 0:
		body := "978" + left[:9]
		wantIsbn(t, s, body+completed(t, body, longSum), api.OK)
	case longShape.MatchString(left) && longSum(left)%10 == 0:
		wantIsbn(t, s, left, api.OK)
	case shortShape.MatchString(left) || longShape.MatchString(left):
		wantIsbn(t, s, "", api.ErrSum)
	default:
		wantIsbn(t, s, "", api.ErrForm)
	}
}

// wantIssn compares Issn with what it must return.
func wantIssn(t *testing.T, s, want string, wantErr api.Errno) {
	t.Helper()
	if got, err := Issn(s); got != want || err != wantErr {
		t.Errorf("Issn(%q) is %q, error %d, not %q, error %d", s, got, int(err), want, int(wantErr))
	}
}

// checkIssn compares Issn with what the document says.
func checkIssn(t *testing.T, s string) {
	t.Helper()
	if !issnShape.MatchString(s) {
		wantIssn(t, s, "", api.ErrForm)
		return
	}
	plain := strings.ReplaceAll(s, "-", "")
	if issnSum(plain)%11 != 0 {
		wantIssn(t, s, "", api.ErrSum)
		return
	}
	wantIssn(t, s, plain[:4]+"-"+plain[4:], api.OK)
}

// randomDigits returns n digits.
func randomDigits(r *rand.Rand, n int) string {
	s := ""
	for range n {
		s += strconv.Itoa(r.Intn(10))
	}
	return s
}

// weightedNumber returns digits with the last character that makes their weighted sum a multiple of 11.
func weightedNumber(t *testing.T, body string, sum func(string) int) string {
	t.Helper()
	for _, c := range strings.Split("0123456789X", "") {
		if sum(body+c)%11 == 0 {
			return body + c
		}
	}
	t.Fatalf("no last character for %q", body)
	return ""
}

// shortIsbns, longIsbns and issns return right numbers: some that have an X, and many others.
func shortIsbns(t *testing.T) []string {
	list := []string{"0306406152", "080442957X", "0000000000", "0000000019", "9999999999", "043942089X"}
	r := rand.New(rand.NewSource(5))
	for range 300 {
		list = append(list, weightedNumber(t, randomDigits(r, 9), shortSum))
	}
	return list
}

func longIsbns(t *testing.T) []string {
	list := []string{"9780306406157", "9780804429573", "9780000000002", "9790000000001", "9799999999990"}
	r := rand.New(rand.NewSource(13))
	for i := range 300 {
		body := strconv.Itoa(978+i%2) + randomDigits(r, 9)
		list = append(list, body+completed(t, body, longSum))
	}
	return list
}

func issns(t *testing.T) []string {
	list := []string{"03785955", "2434561X", "00000000", "00000019", "99999994", "15372537"}
	r := rand.New(rand.NewSource(8))
	for range 300 {
		list = append(list, weightedNumber(t, randomDigits(r, 7), issnSum))
	}
	return list
}

// barcodes returns right barcodes of many numbers, and of all kinds of ends.
func barcodes(t *testing.T) []string {
	t.Helper()
	var list []string
	for n := 0; n <= api.MaxID; n += 7 {
		for kind := 2; kind <= 3; kind++ {
			s, err := Make(kind, n)
			if err != api.OK {
				t.Fatalf("Make(%d, %d) returns error %d", kind, n, int(err))
			}
			list = append(list, s)
		}
	}
	return list
}

// everyPlace calls a function with a text, in which each character in turn is replaced by another text, and with the text in which the other text is put into each place.
func everyPlace(s, other string, call func(string)) {
	for i := range len(s) {
		call(s[:i] + other + s[i+1:])
		call(s[:i] + other + s[i:])
	}
	call(s + other)
}

// everyByte calls a function with a text, in which each character in turn is replaced by each byte.
func everyByte(s string, call func(string)) {
	for b := range 256 {
		everyPlace(s, string([]byte{byte(b)}), call)
	}
	for _, other := range others {
		everyPlace(s, other, call)
	}
}

// everyPart calls a function with each beginning and each end of a text, and with longer ones.
func everyPart(s string, call func(string)) {
	for i := range len(s) + 1 {
		call(s[:i])
		call(s[i:])
	}
	for _, more := range []string{"0", "00", "000", "5", "X", "XX", " ", "-", strings.Repeat("0", 100), strings.Repeat("7", 1000)} {
		call(s + more)
		call(more + s)
	}
	call(s + s)
}

func TestExamples(t *testing.T) {
	if n, err := Luhn("7992739871"); n != 3 || err != api.OK {
		t.Errorf("Luhn is %d, error %d", n, int(err))
	}
	if s, err := Make(2, 17); s != "20000000000170" || err != api.OK {
		t.Errorf("Make is %q, error %d", s, int(err))
	}
	wantParse(t, "20000000000170", 2, 17, api.OK)
	wantParse(t, "20000000000173", 0, 0, api.ErrSum)
	wantParse(t, "40000000000170", 0, 0, api.ErrForm)
	wantIsbn(t, "0-306-40615-2", "9780306406157", api.OK)
	wantIsbn(t, "978 0306406157", "9780306406157", api.OK)
	wantIsbn(t, "0306406153", "", api.ErrSum)
	wantIsbn(t, "08044295X", "", api.ErrForm)
	wantIsbn(t, "080442957X", "9780804429573", api.OK)
	wantIssn(t, "03785955", "0378-5955", api.OK)
	wantIssn(t, "2434-561X", "2434-561X", api.OK)
}

// P5.1: all sequences of up to five digits, and many of each length.
func TestLuhnOfDigits(t *testing.T) {
	for length := 1; length <= 5; length++ {
		for n := range int(math.Pow10(length)) {
			checkLuhn(t, fmt.Sprintf("%0*d", length, n))
		}
	}
	r := rand.New(rand.NewSource(1))
	for length := range 25 {
		for range 300 {
			checkLuhn(t, randomDigits(r, length))
		}
		for d := range 10 {
			checkLuhn(t, strings.Repeat(strconv.Itoa(d), length))
		}
	}
}

// P5.1: a single digit, twenty of them, none, too many.
func TestLuhnLengths(t *testing.T) {
	for _, c := range []struct {
		s    string
		n    int
		want api.Errno
	}{
		{"", 0, api.ErrForm},
		{"0", 0, api.OK},
		{"1", 8, api.OK},
		{"5", 9, api.OK},
		{"9", 1, api.OK},
		{"18", 2, api.OK},
		{strings.Repeat("0", 20), 0, api.OK},
		{strings.Repeat("9", 20), 0, api.OK},
		{strings.Repeat("9", 19), 9, api.OK},
		{strings.Repeat("0", 21), 0, api.ErrForm},
		{strings.Repeat("9", 21), 0, api.ErrForm},
		{strings.Repeat("1", 22), 0, api.ErrForm},
		{strings.Repeat("1", 100000), 0, api.ErrForm},
	} {
		if n, err := Luhn(c.s); n != c.n || err != c.want {
			t.Errorf("Luhn of %d characters is %d, error %d, not %d, error %d", len(c.s), n, int(err), c.n, int(c.want))
		}
	}
}

// P5.1: other characters than digits in each place of a short, a middle and the longest sequence.
func TestLuhnOfOtherCharacters(t *testing.T) {
	for _, s := range []string{"0", "37", "7992739871", "1234567890123456789", "12345678901234567890"} {
		everyByte(s, func(s string) { checkLuhn(t, s) })
		everyPart(s, func(s string) { checkLuhn(t, s) })
	}
}

// P5.2: all numbers of both kinds, and those next to them.
func TestMakeOfNumbers(t *testing.T) {
	for n := -100; n <= api.MaxID+100; n++ {
		for kind := 1; kind <= 4; kind++ {
			checkMake(t, kind, n)
		}
	}
}

// P5.2: other kinds with right and wrong numbers (the kind is examined first), and both kinds with numbers far away.
func TestMakeErrors(t *testing.T) {
	ends := append([]int{-1, 0, 1, 17, api.MaxID - 1, api.MaxID, api.MaxID + 1}, far...)
	kinds := append([]int{-1, 0, 1, 2, 3, 4, 5, 12, 20, 22, 23, 50, 51, 256 + 2, 256 + 3}, far...)
	for _, kind := range kinds {
		for _, n := range ends {
			checkMake(t, kind, n)
		}
	}
}

// P5.2, P5.3: both errors at once, as the document orders them.
func TestOrderOfErrors(t *testing.T) {
	for _, n := range []int{-1, api.MaxID + 1, math.MinInt, math.MaxInt} {
		if s, err := Make(1, n); s != "" || err != api.ErrArg {
			t.Errorf("Make(1, %d) is %q, error %d", n, s, int(err))
		}
		if s, err := Make(2, n); s != "" || err != api.ErrRange {
			t.Errorf("Make(2, %d) is %q, error %d", n, s, int(err))
		}
	}
	wantParse(t, "20000000099990", 2, 9999, api.OK)
	wantParse(t, "20000000100000", 0, 0, api.ErrSum)
	wantParse(t, "20000000100000"[:13]+completed(t, "2000000010000", sumOf), 0, 0, api.ErrRange)
	wantParse(t, "40000000100001", 0, 0, api.ErrForm)
}

// P5.3, P5.6: all barcodes, with each check digit.
func TestParseOfBarcodes(t *testing.T) {
	for kind := 2; kind <= 3; kind++ {
		for n := range api.MaxID + 1 {
			s, err := Make(kind, n)
			if err != api.OK {
				t.Fatalf("Make(%d, %d) returns error %d", kind, n, int(err))
			}
			wantParse(t, s, kind, n, api.OK)
			for d := range 10 {
				checkParse(t, s[:13]+strconv.Itoa(d))
			}
		}
	}
}

// P5.3: numbers above MaxID, with each check digit.
func TestParseOfGreatNumbers(t *testing.T) {
	bodies := []string{"2000000010000", "3000000010000", "2000000010001", "3000000019999", "2000000100000", "2000001000000", "3900000000000", "2999999999999", "3999999999999"}
	bodies = append(bodies, "2100000000017", "2010000000017", "3004294967296", "3004294967313", "2002147483648")
	r := rand.New(rand.NewSource(3))
	for range 1000 {
		bodies = append(bodies, strconv.Itoa(2+r.Intn(2))+randomDigits(r, 12))
	}
	for _, body := range bodies {
		for d := range 10 {
			checkParse(t, body+strconv.Itoa(d))
		}
	}
}

// P5.3: other lengths, other first digits and other characters in each place, with a right check digit where there is one.
func TestParseForms(t *testing.T) {
	for _, s := range []string{"20000000000170", "30000000099998", "20000000000006", "31234567890122"} {
		everyByte(s, func(s string) { checkParse(t, s) })
		everyPart(s, func(s string) { checkParse(t, s) })
	}
	r := rand.New(rand.NewSource(4))
	for first := range 10 {
		for _, rest := range []string{"000000000017", "000000009999", "000000010000", "999999999999", randomDigits(r, 12)} {
			body := strconv.Itoa(first) + rest
			right := completed(t, body, sumOf)
			for d := range 10 {
				checkParse(t, body+strconv.Itoa(d))
			}
			checkParse(t, body)
			checkParse(t, body+right+right)
			checkParse(t, "0"+body+right)
		}
	}
	wantParse(t, "", 0, 0, api.ErrForm)
	wantParse(t, "2000000000017X", 0, 0, api.ErrForm)
	wantParse(t, strings.Repeat("2", 100000), 0, 0, api.ErrForm)
}

// P5.6: what Parse accepts is what Make returns.
func TestMakeOfParsed(t *testing.T) {
	r := rand.New(rand.NewSource(6))
	accepted := 0
	for range 200000 {
		s := strconv.Itoa(r.Intn(5)) + "0000000" + randomDigits(r, 6)
		kind, n, err := Parse(s)
		if err != api.OK {
			continue
		}
		accepted++
		if again, err := Make(kind, n); again != s || err != api.OK {
			t.Errorf("Make of what Parse(%q) returns is %q, error %d", s, again, int(err))
		}
	}
	if accepted < 100 {
		t.Errorf("Parse accepted only %d texts", accepted)
	}
}

// P5.7: each single digit replaced by each other one.
func TestReplacedDigits(t *testing.T) {
	for _, s := range barcodes(t) {
		for i := range s {
			for _, d := range "0123456789" {
				wrong := s[:i] + string(d) + s[i+1:]
				if wrong == s {
					continue
				}
				if kind, n, err := Parse(wrong); kind != 0 || n != 0 || err == api.OK {
					t.Errorf("Parse(%q) is %d, %d, error %d, though one digit of %q is replaced", wrong, kind, n, int(err), s)
				}
			}
		}
	}
}

// P5.7: each two neighbouring digits exchanged; those of 0 and 9 are what P5.3 says.
func TestExchangedDigits(t *testing.T) {
	for _, s := range barcodes(t) {
		for i := range len(s) - 1 {
			wrong := s[:i] + s[i+1:i+2] + s[i:i+1] + s[i+2:]
			checkParse(t, wrong)
			pair := s[i : i+2]
			if pair[0] == pair[1] || pair == "09" || pair == "90" {
				continue
			}
			if kind, n, err := Parse(wrong); kind != 0 || n != 0 || err == api.OK {
				t.Errorf("Parse(%q) is %d, %d, error %d, though two digits of %q are exchanged", wrong, kind, n, int(err), s)
			}
		}
	}
}

// P5.4: right book numbers, and each other last character.
func TestIsbnLastCharacters(t *testing.T) {
	for _, s := range append(shortIsbns(t), longIsbns(t)...) {
		if _, err := Isbn(s); err != api.OK {
			t.Errorf("Isbn(%q) returns error %d", s, int(err))
		}
		body := s[:len(s)-1]
		for _, c := range append(strings.Split("0123456789X", ""), others...) {
			checkIsbn(t, body+c)
			if body+c != s {
				if got, err := Isbn(body + c); got != "" || err == api.OK {
					t.Errorf("Isbn(%q) is %q, error %d, though the last character is wrong", body+c, got, int(err))
				}
			}
		}
	}
}

// P5.4: an X, a small x and other characters in each place, and other lengths.
func TestIsbnForms(t *testing.T) {
	for _, s := range []string{"0306406152", "080442957X", "9780306406157", "9790000000001"} {
		everyByte(s, func(s string) { checkIsbn(t, s) })
		everyPart(s, func(s string) { checkIsbn(t, s) })
	}
	for _, s := range []string{
		"", "X", "XX", "x", "08044295X", "0804429573X", "080442957x", "X804429570", "XXXXXXXXXX", "000000000X", "978030640615X", "97803064061X7", "978080442957X",
		"97803064061", "978030640615", "97803064061577", "9770306406157", "9800306406157", "\uff19780306406157", "080442957\u2169",
	} {
		checkIsbn(t, s)
	}
	wantIsbn(t, "080442957x", "", api.ErrForm)
	wantIsbn(t, "978080442957X", "", api.ErrForm)
	wantIsbn(t, "", "", api.ErrForm)
}

// P5.4: each length with digits and with an X at the end, with and without a beginning of book numbers.
func TestIsbnLengths(t *testing.T) {
	r := rand.New(rand.NewSource(9))
	for length := range 31 {
		for range 300 {
			s := randomDigits(r, length)
			checkIsbn(t, s)
			checkIsbn(t, s+"X")
			checkIsbn(t, "978"+s)
			checkIsbn(t, "979"+s)
		}
	}
	checkIsbn(t, strings.Repeat("0", 100000))
}

// P5.4: all beginnings of 13 digits, with each last digit.
func TestIsbnBeginnings(t *testing.T) {
	for beginning := range 1000 {
		for _, rest := range []string{"030640615", "000000000", "999999999"} {
			body := fmt.Sprintf("%03d", beginning) + rest
			for d := range 10 {
				checkIsbn(t, body+strconv.Itoa(d))
			}
			want := ""
			if right := body + completed(t, body, longSum); beginning == 978 || beginning == 979 {
				want = right
				wantIsbn(t, right, want, api.OK)
			} else {
				wantIsbn(t, right, want, api.ErrForm)
			}
		}
	}
}

// P5.4: hyphens and blanks alone, and characters like them, which are not removed.
func TestIsbnWithoutDigits(t *testing.T) {
	for _, s := range []string{"-", " ", "- -", "----------", "             ", strings.Repeat("- ", 50000)} {
		wantIsbn(t, s, "", api.ErrForm)
	}
	for _, other := range []string{"\t", "\n", "\u00a0", "\u00ad", "\u2010", "\u2011", "\u2013", "\u2212", "_", ".", "\x00"} {
		everyPlace("0306406152", other, func(s string) { wantIsbn(t, s, "", api.ErrForm) })
		everyPlace("9780306406157", other, func(s string) { wantIsbn(t, s, "", api.ErrForm) })
	}
}

// P5.4, P5.8: the same number with hyphens or blanks anywhere, a wrong one too, and what Isbn returns.
func TestIsbnWithHyphens(t *testing.T) {
	r := rand.New(rand.NewSource(10))
	for _, s := range append(shortIsbns(t), longIsbns(t)...) {
		want, err := Isbn(s)
		if err != api.OK {
			t.Fatalf("Isbn(%q) returns error %d", s, int(err))
		}
		wantIsbn(t, want, want, api.OK)
		for _, gap := range []string{"-", " ", "--", "  ", "- ", " -", strings.Repeat("-", 40), strings.Repeat(" ", 40)} {
			for i := range len(s) + 1 {
				wantIsbn(t, s[:i]+gap+s[i:], want, api.OK)
				wantIsbn(t, want[:i]+gap+want[i:], want, api.OK)
			}
			wantIsbn(t, gap+strings.Join(strings.Split(s, ""), gap)+gap, want, api.OK)
		}
		scattered := ""
		for _, c := range s {
			scattered += strings.Repeat("-", r.Intn(3)) + strings.Repeat(" ", r.Intn(3)) + string(c)
		}
		wantIsbn(t, scattered, want, api.OK)
	}
	everyPlace("0306406153", "-", func(s string) { checkIsbn(t, s) })
	wantIsbn(t, "0-306-40615-3", "", api.ErrSum)
	wantIsbn(t, "0-306-40615-", "", api.ErrForm)
	wantIsbn(t, strings.Repeat("- ", 50000)+"0306406152"+strings.Repeat(" -", 50000), "9780306406157", api.OK)
}

// P5.5: right serial numbers, and each other last character.
func TestIssnLastCharacters(t *testing.T) {
	for _, s := range issns(t) {
		for _, body := range []string{s[:7], s[:4] + "-" + s[4:7]} {
			for _, c := range append(strings.Split("0123456789X", ""), others...) {
				checkIssn(t, body+c)
				if c != s[7:] {
					if got, err := Issn(body + c); got != "" || err == api.OK {
						t.Errorf("Issn(%q) is %q, error %d, though the last character is wrong", body+c, got, int(err))
					}
				}
			}
		}
	}
}

// P5.5: an X, a small x, hyphens, blanks and other characters in each place, and other lengths.
func TestIssnForms(t *testing.T) {
	for _, s := range []string{"03785955", "0378-5955", "2434561X", "2434-561X", "0378-5950"} {
		everyByte(s, func(s string) { checkIssn(t, s) })
		everyPart(s, func(s string) { checkIssn(t, s) })
	}
	for _, s := range []string{
		"", "-", "X", "0378", "0378-595", "0378595", "037859550", "0378-59550", "0378--5955", "03785-955", "037-85955", "-03785955", "03785955-", "0378 5955", " 03785955",
		"0378-5955 ", "0378-595", "037--595", "0000-000", "2434-561x", "2434561x", "X4345610", "243X-5610", "XXXXXXXX", "0000-0000", "0-0-0000", "----------", "--------",
	} {
		checkIssn(t, s)
	}
	wantIssn(t, "0378-595", "", api.ErrForm)
	wantIssn(t, "0000-000", "", api.ErrForm)
	wantIssn(t, "2434-561x", "", api.ErrForm)
	wantIssn(t, "0378 5955", "", api.ErrForm)
	wantIssn(t, strings.Repeat("0", 100000), "", api.ErrForm)
}

// P5.5: each length with digits and with an X at the end, and a hyphen in each place of them.
func TestIssnLengths(t *testing.T) {
	r := rand.New(rand.NewSource(11))
	for length := range 15 {
		for range 300 {
			s := randomDigits(r, length)
			for i := range length + 1 {
				checkIssn(t, s[:i]+"-"+s[i:])
				checkIssn(t, s[:i]+"-"+s[i:]+"X")
			}
			checkIssn(t, s)
			checkIssn(t, s+"X")
		}
	}
}

// P5.9: Issn of what Issn returns, with and without the hyphen.
func TestIssnOfIssn(t *testing.T) {
	for _, s := range issns(t) {
		want := s[:4] + "-" + s[4:]
		wantIssn(t, s, want, api.OK)
		wantIssn(t, want, want, api.OK)
		got, _ := Issn(want)
		wantIssn(t, strings.ReplaceAll(got, "-", ""), want, api.OK)
	}
}

// P5.8, P5.9: each single digit replaced, and each two neighbouring digits exchanged, of book numbers of ten characters and of serial numbers.
func TestErrorsOfTyping(t *testing.T) {
	typed := func(s string, call func(string) (string, api.Errno)) {
		for i := range s {
			for _, c := range "0123456789X" {
				wrong := s[:i] + string(c) + s[i+1:]
				if got, err := call(wrong); wrong != s && (got != "" || err == api.OK) {
					t.Errorf("%q is %q, error %d, though one character of %q is replaced", wrong, got, int(err), s)
				}
			}
			if i == 0 || s[i] == s[i-1] {
				continue
			}
			wrong := s[:i-1] + s[i:i+1] + s[i-1:i] + s[i+1:]
			if got, err := call(wrong); got != "" || err == api.OK {
				t.Errorf("%q is %q, error %d, though two characters of %q are exchanged", wrong, got, int(err), s)
			}
		}
	}
	for _, s := range shortIsbns(t) {
		typed(s, Isbn)
	}
	for _, s := range issns(t) {
		typed(s, Issn)
	}
}
