package match

import (
	"slices"
	"strings"
	"testing"

	"library/api"
	"library/record"
)

// wantNorm checks Keys of a record with one value.
func wantNorm(t *testing.T, norm int, value string, want ...string) {
	t.Helper()
	r := rec(1, fd("245", "a"+value))
	if err := record.Right(r); err != api.OK && value != "" {
		t.Errorf("error %d of the value %q", int(err), value)
	}
	wantKeys(t, key("245", 'a', norm, 1), r, want...)
}

// P15.3: no, one and several fields of the Tag, with no, one and several subfields of the Code.
func TestKeysPlaces(t *testing.T) {
	k := key("245", 'a', 0, 50)
	wantKeys(t, k, rec(1))
	wantKeys(t, k, rec(1, fd("100", "aSmith")))
	wantKeys(t, k, rec(1, fd("245", "bDogs")))
	wantKeys(t, k, rec(1, fd("245", "aDogs")), "Dogs")
	wantKeys(t, k, rec(1, fd("245", "aDogs", "bCats")), "Dogs")
	wantKeys(t, k, rec(1, fd("245", "bCats", "aDogs")), "Dogs")
	wantKeys(t, k, rec(1, fd("245", "aDogs", "bBirds", "aCats")), "Cats", "Dogs")
	wantKeys(t, k, rec(1, fd("245", "bCats"), fd("245", "aDogs")), "Dogs")
	wantKeys(t, k, rec(1, fd("245", "aDogs"), fd("100", "aSmith"), fd("245", "aCats", "aBirds")), "Birds", "Cats", "Dogs")
	wantKeys(t, key("245", 'b', 0, 50), rec(1, fd("245", "aDogs", "bCats")), "Cats")
	wantKeys(t, key("100", 'a', 0, 50), rec(1, fd("245", "aDogs"), fd("100", "aSmith")), "Smith")
	linked := fd("650", "aDogs")
	linked.Auth = 7
	wantKeys(t, key("650", 'a', 0, 50), rec(1, linked), "Dogs")
}

// P15.3: nothing but the Tag, the Code and the Norm of a key matters.
func TestKeysOfWeights(t *testing.T) {
	r := rec(1, fd("245", "aDogs"))
	for _, weight := range numbers(0, 100) {
		wantKeys(t, key("245", 'a', 0, weight), r, "Dogs")
	}
	for id := range 4 {
		for version := 1; version <= 3; version++ {
			for kind := 1; kind <= 4; kind++ {
				r.ID, r.Version, r.Kind, r.Lang = id, version, kind, []string{"eng", "deu", "mul"}[id%3]
				wantKeys(t, key("245", 'a', 0, 1), r, "Dogs")
			}
		}
	}
}

// P15.3: tags that begin alike, and end alike, are other tags.
func TestKeysTags(t *testing.T) {
	var fields []api.Field
	tags := []string{"010", "020", "022", "024", "100", "110", "200", "240", "244", "245", "246", "254", "345", "645", "999"}
	for _, tag := range tags {
		fields = append(fields, fd(tag, "ain "+tag))
	}
	for _, tag := range tags {
		wantKeys(t, key(tag, 'a', 0, 1), rec(1, fields...), "in "+tag)
	}
	wantKeys(t, key("247", 'a', 0, 1), rec(1, fields...))
	// Fields with these tags are in no valid record.
	wantKeys(t, key("245", 'a', 0, 1), rec(1, fd("24", "a1"), fd("2450", "a2"), fd("", "a3"), fd("245 ", "a4"), fd("0245", "a5")))
}

// P15.3: every code among all others.
func TestKeysCodes(t *testing.T) {
	for _, norm := range []int{0, 1} {
		var fields []api.Field
		for i := range len(allCodes) {
			code := allCodes[i : i+1]
			fields = append(fields, fd("245", code+"in "+code, "a1", "zz"))
		}
		for i := range len(allCodes) {
			want := []string{"in " + allCodes[i:i+1]}
			if allCodes[i] == 'a' {
				want = []string{"1", "in a"}
			}
			if allCodes[i] == 'z' {
				want = []string{"in z", "z"}
			}
			wantKeys(t, key("245", allCodes[i], norm, 1), rec(1, fields...), want...)
		}
	}
}

// P15.3: keys ascend byte by byte, and equal ones are there once, in whatever order and in whatever fields the values stand.
func TestKeysOrder(t *testing.T) {
	// In the order of bytes: signs and digits, capital letters, small letters, characters of two and of three bytes.
	ordered := []string{"!", "1", "10", "9", "B", "Z", "a", "a b", "ab", "b", "z", "\u00c9", "\u00e9", "\u03a9", "\u0416", "\u2013", "\uac00", "\uff21"}
	if !slices.IsSorted(ordered) {
		t.Fatal("the values are not in the order of bytes")
	}
	var descending []api.Field
	var subs []string
	for _, value := range slices.Backward(ordered) {
		descending = append(descending, fd("245", "a"+value))
		subs = append(subs, "a"+value)
	}
	wantKeys(t, key("245", 'a', 0, 1), rec(1, descending...), ordered...)
	wantKeys(t, key("245", 'a', 0, 1), rec(1, slices.Concat(descending, descending, descending)...), ordered...)
	wantKeys(t, key("245", 'a', 0, 1), rec(1, fd("245", subs[:9]...), fd("245", subs[9:]...)), ordered...)
	eachSequence([]string{"a\u00e9", "aB", "ab", "a10"}, 4, func(values []string) {
		want := slices.Compact(slices.Sorted(slices.Values(values)))
		for i := range want {
			want[i] = want[i][1:]
		}
		wantKeys(t, key("245", 'a', 0, 1), rec(1, fd("245", values...)), want...)
		for i := range values {
			wantKeys(t, key("245", 'a', 0, 1), rec(1, fd("245", values[:i]...), fd("245", values[i:]...)), want...)
		}
	})
}

// P15.3: what differs as it is can be the same key.
func TestKeysOnce(t *testing.T) {
	wantKeys(t, key("245", 'a', 1, 1), rec(1, fd("245", "aDogs & Cats", "adogs cats."), fd("245", "aDOGS, CATS", "aBirds")), "birds", "dogs cats")
	wantKeys(t, key("020", 'a', 2, 1), rec(1, fd("020", "a978-0-306-40615-7"), fd("020", "a0306406152"), fd("020", "a080442957X")), "9780306406157", "9780804429573")
	wantKeys(t, key("245", 'a', 3, 1), rec(1, fd("245", "aDogs"), fd("245", "adogma", "aDOG", "aDog!")), "dog", "dogm", "dogs")
	wantKeys(t, key("264", 'c', 4, 1), rec(1, fd("264", "c1999"), fd("264", "cc1998", "c[1998, 1997]")), "1998", "1999")
	wantKeys(t, key("245", 'a', 0, 1), rec(1, fd("245", "aDogs", "adogs", "aDogs ", "aDogs")), "Dogs", "Dogs ", "dogs")
	// In the order of what the Norm gives, not of the values.
	wantKeys(t, key("245", 'a', 1, 1), rec(1, fd("245", "a(z)", "aB", "a\u00e0 c")), "a c", "b", "z")
	wantKeys(t, key("264", 'c', 4, 1), rec(1, fd("264", "ca 2001"), fd("264", "cb 1999"), fd("264", "c2000")), "1999", "2000", "2001")
}

// P15.3: Norm 0 leaves a value as it is; empty values, which are in no valid record, are left out.
func TestNormPlain(t *testing.T) {
	for _, value := range []string{"Dogs", " Dogs  & Cats ", "!", " ", "\u00a0", "L'\u00c9T\u00c9", "978-0-306-40615-7", "12345", "\u03a9\uffff", strings.Repeat("x", 200)} {
		wantNorm(t, 0, value, value)
	}
	for norm := range 5 {
		wantNorm(t, norm, "")
		wantKeys(t, key("245", 'a', norm, 1), rec(1, fd("245", "a", "b1998", "a"), fd("245", "a")))
	}
	wantKeys(t, key("245", 'a', 0, 1), rec(1, fd("245", "a", "aDogs", "a")), "Dogs")
}

// wordCases are values, and the words of each, joined by a blank.
var wordCases = [][2]string{
	{"Dogs & Cats", "dogs cats"}, {"dogs", "dogs"}, {"DOGS", "dogs"}, {"  Dogs   and \u00a0 cats  ", "dogs and cats"},
	{"L'\u00e9t\u00e9 1990!", "l ete 1990"}, {"\u00c6gir Stra\u00dfe", "aegir strasse"}, {"\u00dc\u00d1\u00cf-\u00c7\u00d8\u00fe", "uni coth"},
	{"Dogs: a guide / Ann Smith.", "dogs a guide ann smith"}, {"a.b,c;d", "a b c d"}, {"(1998)", "1998"}, {"c\u00d7d\u00f7e", "c d e"},
	{"\u03a9mega \u0416", "\u03a9mega \u0416"}, {"\u0416-\u0416", "\u0416 \u0416"}, {"\u2013", "\u2013"}, {"ab\u0301c", "ab\u0301c"}, {"\u00ab\u00bb x", "x"},
	{"!", ""}, {" ", ""}, {"\u00a0 \u00a0", ""}, {"...", ""}, {"--", ""}, {"\u00d7", ""}, {"\u00b2\u00b3", ""}, {"$&%/()=?", ""},
}

// P15.3: Norm 1 of values with marks, capital letters, signs and several blanks, and of values without a word.
func TestNormWords(t *testing.T) {
	for _, c := range wordCases {
		wantNorm(t, 1, c[0], listOf(c[1])...)
	}
	wantNorm(t, 1, strings.Repeat("\u00c4 ", 66), strings.TrimSpace(strings.Repeat("a ", 66)))
	wantKeys(t, key("245", 'a', 1, 1), rec(1, fd("245", "a!", "aDogs!", "a?"), fd("245", "a ")), "dogs")
}

// listOf returns a list of a key, an empty one if the key is empty.
func listOf(s string) []string {
	if s == "" {
		return nil
	}
	return []string{s}
}

// P15.3: Norm 2 of book numbers of ten and of 13 digits, and of what is none.
func TestNormIsbn(t *testing.T) {
	for value, want := range map[string]string{
		"0306406152": "9780306406157", "0-306-40615-2": "9780306406157", "9780306406157": "9780306406157", "978-0-306-40615-7": "9780306406157",
		"978 0306406157": "9780306406157", " 0 3 0 6-4 0 6 1 5 2 ": "9780306406157", "--978--0306406157--": "9780306406157",
		"080442957X": "9780804429573", "0-8044-2957-X": "9780804429573", "9780804429573": "9780804429573",
		"9791090636071": "9791090636071", "979-10-90636-07-1": "9791090636071", "0000000000": "9780000000002",
		"0306406153": "", "9780306406158": "", "080442957x": "", "08044295X": "", "X804429570": "", "0804429570": "",
		"9770306406157": "", "9800306406157": "", "030640615": "", "03064061520": "", "978030640615": "", "97803064061577": "",
		"0306406152 (pbk)": "", "ISBN 0306406152": "", "0306406152.": "", "0306406152\u00a0": "", "0306\u2013406152": "", "03-7855": "", "0378-5955": "",
		"Dogs": "", "-": "", " ": "", "X": "", "\uff10306406152": "",
	} {
		wantNorm(t, 2, value, listOf(want)...)
	}
	wantKeys(t, key("020", 'a', 2, 1), rec(1, fd("020", "aDogs", "z9780306406157", "a0-8044-2957-X", "a1")), "9780804429573")
}

// P15.3: Norm 3 is the first four characters, not bytes, of what Norm 1 gives.
func TestNormStart(t *testing.T) {
	for value, want := range map[string]string{
		"a": "a", "ab": "ab", "abc": "abc", "abcd": "abcd", "abcde": "abcd", "Dogs & Cats": "dogs", "DOGMA": "dogm",
		"a bcd": "a bc", "ab cd": "ab c", "abc def": "abc ", "abc.": "abc", "abc ": "abc", "a b c": "a b ", "a b": "a b", "a, b, c": "a b ", "  a  b": "a b", "abcd efg": "abcd",
		"\u00c9t\u00e9s": "etes", "\u00c9t\u00e9": "ete", "\u00c6gir": "aegi", "\u00df": "ss", "\u00df\u00df\u00df": "ssss", "\u00de\u00c6\u00df": "thae", "L'\u00e9t\u00e9": "l et",
		"\u03a9": "\u03a9", "\u03a9\u03a9\u03a9": "\u03a9\u03a9\u03a9", "\u03a9\u03a9\u03a9\u03a9": "\u03a9\u03a9\u03a9\u03a9", "\u03a9\u03a9\u03a9\u03a9\u03a9": "\u03a9\u03a9\u03a9\u03a9",
		"\uac00\uac01\uac02\uac03\uac04": "\uac00\uac01\uac02\uac03", "a\uac01b\uac03c": "a\uac01b\uac03", "\u0416 \u0416 \u0416": "\u0416 \u0416 ", "ab\uff21": "ab\uff21",
		"!": "", " ": "", "(a)": "a", "12345": "1234", "1998": "1998", "!!!!!abcdef": "abcd",
	} {
		wantNorm(t, 3, value, listOf(want)...)
	}
	for _, c := range wordCases {
		characters := []rune(c[1])
		wantNorm(t, 3, c[0], listOf(string(characters[:min(4, len(characters))]))...)
	}
}

// P15.3: Norm 4 is the first run of exactly four digits.
func TestNormYear(t *testing.T) {
	for value, want := range map[string]string{
		"1998": "1998", "[1998]": "1998", "c1998": "1998", "1998-": "1998", "1998, c1997": "1998", "1998 1999": "1998", "1999 1998": "1999", "1998-99": "1998", "98-1999": "1999",
		"c12345": "", "12345": "", "12345678": "", "123": "", "1": "", "Dogs": "", " ": "", "19 98": "", "19.98": "", "19-98": "",
		"12345 1998": "1998", "12345-1998": "1998", "123 1998": "1998", "1998 12345": "1998", "12345, 123, 1998, 1999": "1998", "199a1998": "1998", "123456781 2345 6789": "2345",
		"0000": "0000", "0999": "0999", "9999": "9999", "x0001x": "0001", "1998th edition": "1998", "in 1998": "1998", "in 19980 or 1998": "1998",
		"\uff11\uff19\uff19\uff18": "", "\u0661\u0669\u0669\u0668": "", "1998\uff11": "1998", "\u06611998": "1998", "\u00b21998\u00b3": "1998", "\u00e91998\u00e9": "1998", "\uac001998": "1998",
	} {
		wantNorm(t, 4, value, listOf(want)...)
	}
}

// P15.3: Norm 4 of all choices of digits and other characters, up to 15 of them.
func TestNormYearRuns(t *testing.T) {
	for n := 1; n <= 15; n++ {
		for choice := range 1 << n {
			value := make([]byte, n)
			for i := range value {
				value[i] = "0123456789"[i%10]
				if choice>>i&1 == 0 {
					value[i] = " -cx.,["[i%7]
				}
			}
			want := listOf(normOf(string(value), 4))
			if got := Keys(key("264", 'c', 4, 1), rec(1, fd("264", "c"+string(value)))); !slices.Equal(got, want) {
				t.Errorf("Keys with Norm 4 of %q is %q, want %q", value, got, want)
			}
		}
	}
}

// P15.3: a value has one key at most, whatever its neighbours; runs and words do not go on in the next subfield.
func TestKeysApart(t *testing.T) {
	wantKeys(t, key("264", 'c', 4, 1), rec(1, fd("264", "c19", "c98"), fd("264", "c199", "c8")))
	wantKeys(t, key("264", 'c', 4, 1), rec(1, fd("264", "c1998", "c1")), "1998")
	wantKeys(t, key("245", 'a', 1, 1), rec(1, fd("245", "aDogs and", "acats")), "cats", "dogs and")
	wantKeys(t, key("245", 'a', 3, 1), rec(1, fd("245", "aab", "acd"), fd("245", "aef")), "ab", "cd", "ef")
	wantKeys(t, key("020", 'a', 2, 1), rec(1, fd("020", "a03064", "a06152")))
}

// P15.3: as many fields, subfields and bytes as a valid record can have.
func TestKeysFull(t *testing.T) {
	var fields []api.Field
	var want []string
	for i := range 64 {
		f := api.Field{Tag: "245", Ind: "  "}
		for j := range 16 {
			value := strings.Repeat("x", 196) + string([]byte{byte('A' + (i*16+j)*7%1024/32), '0' + byte((i*16+j)*7%32), 'y', 'y'})
			f.Subs = append(f.Subs, api.Sub{Code: 'a', Value: value})
			want = append(want, value)
		}
		fields = append(fields, f)
	}
	r := rec(1, fields...)
	if err := record.Right(r); err != api.OK {
		t.Fatalf("error %d", int(err))
	}
	slices.Sort(want)
	want = slices.Compact(want)
	if len(want) != 1024 {
		t.Fatalf("%d values differ", len(want))
	}
	wantKeys(t, key("245", 'a', 0, 1), r, want...)
	wantKeys(t, key("245", 'a', 3, 1), r, "xxxx")
}
