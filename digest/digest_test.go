package digest

import (
	"fmt"
	"math"
	"math/big"
	"math/rand"
	"regexp"
	"slices"
	"strings"
	"testing"

	"library/api"
)

// twin and otherTwin are elements with the same digest on the lowest level.
const (
	twin      = "\x03k\xdaE*;z\xef\x8a\x84"
	otherTwin = "+\n\xe7\xc0\x04[\xbc\x0eO\x99"
)

// odd are strings that are no digests, and some that are.
var odd = []string{
	"", " ", "0", "1", "x", "0123456789abcde", "0123456789ABCDEF", "0123456789abcdeg", "0123456789abcdef", "0000000000000000", "ffffffffffffffff",
	"0123456789abcdef0", "0123456789abcdef0123456789abcdef", "\x00", "\x80\xff", "\u00e9", "\u65e5\u672c", "\U0001d7d8", strings.Repeat("a", 1000),
}

// far are numbers that are far from the places and the lengths of lists; those near 2^32 and 2^63 are near again if they wrap around.
var far = []int{
	math.MinInt, math.MinInt + 1, math.MinInt + 2, math.MinInt32, -1 << 32, -1<<32 + 1, -4097, -4096, -4095, -100, -3, -2,
	math.MaxInt32, 1 << 32, 1<<32 + 1, 1<<32 + 2, 1<<32 + 3, math.MaxInt - 1, math.MaxInt,
}

// shape is what a digest looks like.
var shape = regexp.MustCompile(`\A[0-9a-f]{16}\z`)

// decimal returns a number that is written with decimal digits.
func decimal(s string) *big.Int {
	n, ok := new(big.Int).SetString(s, 10)
	if !ok {
		panic("no number: " + s)
	}
	return n
}

// modulus is 2^64; beginning, factor, firstFactor and secondFactor are the numbers of the definition.
var (
	modulus      = decimal("18446744073709551616")
	beginning    = decimal("14695981039346656037")
	factor       = decimal("1099511628211")
	firstFactor  = decimal("18397679294719823053")
	secondFactor = decimal("14181476777654086739")
)

// sumOf computes the digest of a string by the steps of the definition, with big integers.
func sumOf(s string) string {
	h := new(big.Int).Set(beginning)
	times := func(f *big.Int) { h.Mod(h.Mul(h, f), modulus) }
	fold := func() { h.Xor(h, new(big.Int).Rsh(h, 33)) }
	for _, c := range []byte(s) {
		h.Xor(h, big.NewInt(int64(c)))
		times(factor)
	}
	fold()
	times(firstFactor)
	fold()
	times(secondFactor)
	fold()
	return fmt.Sprintf("%016x", h)
}

// checkSum compares Sum with the definition.
func checkSum(t *testing.T, s string) {
	t.Helper()
	if got, want := Sum(s), sumOf(s); got != want {
		t.Errorf("Sum(%.40q) is %q, not %q", s, got, want)
	}
}

// checkRight compares Right with what it must return.
func checkRight(t *testing.T, d string, want bool) {
	t.Helper()
	if got := Right(d); got != want {
		t.Errorf("Right(%.40q) is %t", d, got)
	}
}

// The chapter's examples.
func TestExamples(t *testing.T) {
	checkRight(t, "0123456789abcdef", true)
	checkRight(t, "0123456789ABCDEF", false)
	checkRight(t, "", false)
	checkRight(t, Sum(""), true)
	if Root([]string{"x"}) != Sum("0x") {
		t.Error("the root of x is not the digest of 0x")
	}
	pair := Join(Sum("0x"), Sum("0y"))
	if Root([]string{"x", "y"}) != pair {
		t.Error("the root of x and y is not that of both digests")
	}
	wantProof(t, []string{"x", "y", "z"}, 2, []string{pair}, api.OK)
	wantProof(t, []string{"x", "y", "z"}, 0, []string{Sum("0y"), Sum("0z")}, api.OK)
	wantProof(t, []string{"x"}, 1, nil, api.ErrRange)
}

// P6.1: digests that were computed by another program, some of which begin with a zero.
func TestSumKnown(t *testing.T) {
	var every []byte
	for c := range 256 {
		every = append(every, byte(c))
	}
	for _, c := range []struct{ s, want string }{
		{"", "efd01f60ba992926"}, {"a", "82a2a958a9bece5b"}, {"\x00", "b9034ad37056f5fb"}, {"\x80", "fde60e7528771881"}, {"\xff", "1bbd5c813c69a8d7"},
		{"0", "c1e42af088ff1b2c"}, {"1", "7c3832dde020d3d6"}, {"0x", "6ee177e036fd45e0"}, {"library", "0e47b10ce8ab55bd"}, {"\u00e9", "9d55ccb9ba86763b"},
		{string(every), "2067db6dbd4efa06"}, {strings.Repeat("a", 1000), "3279d955405125ab"},
	} {
		if got := Sum(c.s); got != c.want {
			t.Errorf("Sum(%.40q) is %q, not %q", c.s, got, c.want)
		}
	}
}

// P6.1: every string of up to two bytes; some of their digests begin with one, two and three zeros.
func TestSumShort(t *testing.T) {
	checkSum(t, "")
	var zeros [length]int
	for c := range 256 {
		checkSum(t, string([]byte{byte(c)}))
		for d := range 256 {
			s := string([]byte{byte(c), byte(d)})
			checkSum(t, s)
			sum := Sum(s)
			zeros[len(sum)-len(strings.TrimLeft(sum, "0"))]++
		}
	}
	if zeros[0] == 0 || zeros[1] == 0 || zeros[2] == 0 || zeros[3] == 0 {
		t.Errorf("the numbers of digests that begin with 0, 1, 2 and so on zeros are %d", zeros)
	}
}

// P6.1: strings of every length up to 300, long ones, texts, and strings that are no texts.
func TestSumLong(t *testing.T) {
	random := rand.New(rand.NewSource(6))
	for n := range 300 {
		s := make([]byte, n)
		random.Read(s)
		checkSum(t, string(s))
		checkSum(t, strings.Repeat("\x00", n))
		checkSum(t, strings.Repeat("\xff", n))
		checkSum(t, strings.Repeat("x", n))
	}
	for _, n := range []int{1000, 1023, 1024, 4096, 65535, 65536, 100000} {
		s := make([]byte, n)
		random.Read(s)
		checkSum(t, string(s))
	}
	for _, s := range odd {
		checkSum(t, s)
		checkSum(t, "0"+s)
		checkSum(t, s+"\x00")
	}
}

// P6.1: every byte counts, and its place.
func TestSumDiffers(t *testing.T) {
	base := "The library of Babel"
	seen := map[string]string{Sum(base): base}
	for i := range len(base) {
		for c := range 256 {
			s := []byte(base)
			if s[i] == byte(c) {
				continue
			}
			s[i] = byte(c)
			if other, ok := seen[Sum(string(s))]; ok {
				t.Errorf("%q and %q have the same digest", s, other)
			}
			seen[Sum(string(s))] = string(s)
		}
	}
	if Sum("ab") == Sum("ba") || Sum("a") == Sum("a\x00") || Sum("a") == Sum("\x00a") {
		t.Error("digests of different strings are the same")
	}
}

// P6.1: lengths, and every byte at every place.
func TestRight(t *testing.T) {
	for n := range 40 {
		for _, c := range "0123456789abcdef" {
			checkRight(t, strings.Repeat(string(c), n), n == 16)
		}
	}
	for i := range 16 {
		for c := range 256 {
			d := []byte("fedcba9876543210")
			d[i] = byte(c)
			checkRight(t, string(d), shape.MatchString(string(d)))
			d = append(d, byte(c))
			checkRight(t, string(d), false)
			checkRight(t, string(d[1:16]), false)
		}
	}
	for _, c := range "0123456789abcdef" {
		checkRight(t, "012345678abcdef"+string(c), true)
		checkRight(t, string(c)+"012345678abcdef", true)
	}
}

// P6.1: capital letters, other digits, and characters of several bytes, with which a string has sixteen bytes or sixteen characters.
func TestRightCharacters(t *testing.T) {
	for _, d := range []string{
		"ABCDEF0123456789", "Abcdef0123456789", "0123456789abcdeF", "0x23456789abcdef", "+123456789abcdef", "-123456789abcdef", " 123456789abcdef", "0123456789abcde ",
		"0123456789abcdef\n", "\n0123456789abcdef", "0123456789abcde\n", "01234567_9abcdef", "0123456789abcdef\x00", "01234567 89abcdef",
		"\u00e9123456789abcdef", "\u00e923456789abcdef", "0123456789abcde\uff10", "0123456789abc\uff10", "0123456789abcde\u0660", "0123456789abcd\u0660",
		strings.Repeat("\uff10", 16), strings.Repeat("\u0660", 8), strings.Repeat("\U0001d7d8", 4), strings.Repeat("\xff", 16),
	} {
		checkRight(t, d, false)
	}
	for _, s := range odd {
		checkRight(t, s, shape.MatchString(s))
	}
}

// P6.1 and P6.2: all results are digests.
func TestRightResults(t *testing.T) {
	for _, s := range odd {
		checkRight(t, Sum(s), true)
		for _, r := range odd {
			checkRight(t, Join(s, r), true)
		}
	}
	for n := range 40 {
		checkRight(t, Root(odd[:n%len(odd)]), true)
		checkRight(t, Root(list(n)), true)
	}
}

// P6.1: digests, empty texts, and texts that are no digests.
func TestJoin(t *testing.T) {
	for _, a := range odd {
		for _, b := range odd {
			if got, want := Join(a, b), sumOf("1"+a+b); got != want {
				t.Errorf("Join(%.40q, %.40q) is %q, not %q", a, b, got, want)
			}
		}
	}
	if Join("", "") != Sum("1") || Join("ab", "c") != Join("a", "bc") || Join("abc", "") != Join("", "abc") {
		t.Error("Join does not take its texts one after the other")
	}
	if a, b := Sum("a"), Sum("b"); Join(a, b) == Join(b, a) || Join(a, b) == Join(a, a) || Join(a, b) == Join(b, b) {
		t.Error("Join does not depend on the order of its texts")
	}
}

// list returns n different elements.
func list(n int) []string {
	l := make([]string, n)
	for i := range l {
		l[i] = fmt.Sprintf("element %d", i)
	}
	return l
}

// lists returns lists of n elements: different ones, equal ones, empty ones, some of both, and texts that are no digests.
func lists(n int) [][]string {
	all := [][]string{list(n), make([]string, n), slices.Repeat([]string{"x"}, n), list(n), make([]string, n)}
	for i := range n {
		if i%3 == 0 {
			all[3][i] = all[3][0]
		}
		all[4][i] = odd[i%len(odd)]
	}
	return all
}

// lengths are those of long lists: powers of two, one less and one more, and others.
var lengths = []int{127, 128, 129, 200, 255, 256, 257, 500, 511, 512, 513, 1000, 1023, 1024, 1025, 2047, 2048, 2049, 3000, 3073, 4095, 4096, 4097, 5000, 8192, 10001}

// levelsOf returns the levels of a list, as the definition has them. TestSum.. compare Sum with the definition.
func levelsOf(l []string) [][]string {
	var lowest []string
	for _, element := range l {
		lowest = append(lowest, Sum("0"+element))
	}
	levels := [][]string{lowest}
	for len(levels[len(levels)-1]) > 1 {
		var next []string
		for pair := range slices.Chunk(levels[len(levels)-1], 2) {
			if len(pair) == 2 {
				next = append(next, Sum("1"+pair[0]+pair[1]))
			} else {
				next = append(next, pair[0])
			}
		}
		levels = append(levels, next)
	}
	return levels
}

// proofOf returns the neighbours of place i on some levels.
func proofOf(levels [][]string, i int) []string {
	var proof []string
	for _, level := range levels {
		switch {
		case i%2 == 1:
			proof = append(proof, level[i-1])
		case i+1 < len(level):
			proof = append(proof, level[i+1])
		}
		i /= 2
	}
	return proof
}

// checkRoot compares Root with what the document says.
func checkRoot(t *testing.T, l []string) {
	t.Helper()
	want := sumOf("")
	if len(l) > 0 {
		levels := levelsOf(l)
		want = levels[len(levels)-1][0]
	}
	if got := Root(l); got != want {
		t.Errorf("Root of %d elements, %.40q, is %q, not %q", len(l), l, got, want)
	}
}

// P6.2: few elements, with the digests written out.
func TestRootFew(t *testing.T) {
	sum := func(s string) string { return sumOf("0" + s) }
	pair := func(a, b string) string { return sumOf("1" + a + b) }
	for _, c := range []struct {
		l    []string
		want string
	}{
		{nil, "efd01f60ba992926"}, {[]string{}, "efd01f60ba992926"}, {[]string{"x"}, "6ee177e036fd45e0"}, {[]string{""}, "c1e42af088ff1b2c"},
		{[]string{"x", "y"}, "6a1c53dc8eb85ec4"}, {[]string{"x", "y", "z"}, "bcc9ffecb3cd2bf2"},
		{[]string{"", ""}, pair(sum(""), sum(""))}, {[]string{"y", "x"}, pair(sum("y"), sum("x"))},
		{[]string{"a", "b", "c", "d"}, pair(pair(sum("a"), sum("b")), pair(sum("c"), sum("d")))},
		{[]string{"a", "b", "c", "d", "e"}, pair(pair(pair(sum("a"), sum("b")), pair(sum("c"), sum("d"))), sum("e"))},
		{[]string{"a", "b", "c", "d", "e", "f"}, pair(pair(pair(sum("a"), sum("b")), pair(sum("c"), sum("d"))), pair(sum("e"), sum("f")))},
		{[]string{"a", "b", "c", "d", "e", "f", "g"}, pair(pair(pair(sum("a"), sum("b")), pair(sum("c"), sum("d"))), pair(pair(sum("e"), sum("f")), sum("g")))},
	} {
		if got := Root(c.l); got != c.want {
			t.Errorf("Root(%q) is %q, not %q", c.l, got, c.want)
		}
	}
}

// P6.2: lists of all lengths up to 130, and of many others.
func TestRoot(t *testing.T) {
	for n := range 131 {
		for _, l := range lists(n) {
			checkRoot(t, l)
		}
	}
	for _, n := range append(slices.Clone(lengths), 65537) {
		checkRoot(t, list(n))
		checkRoot(t, make([]string, n))
	}
}

// P6.2: the root depends on every element, on their order and on their number.
func TestRootDiffers(t *testing.T) {
	for n := 1; n < 20; n++ {
		root := Root(list(n))
		if Root(list(n+1)) == root || Root(append(list(n), "")) == root || Root(append([]string{""}, list(n)...)) == root {
			t.Errorf("Root of %d elements is that of one more", n)
		}
		for i := range n {
			l := list(n)
			l[i] += "x"
			if Root(l) == root {
				t.Errorf("Root of %d elements does not depend on element %d", n, i)
			}
			l = list(n)
			l[0], l[i] = l[i], l[0]
			if (Root(l) == root) != (i == 0) {
				t.Errorf("Root of %d elements with the elements 0 and %d exchanged: %t", n, i, Root(l) == root)
			}
		}
	}
	if Root([]string{Root(list(2))}) == Root(list(2)) || Root([]string{Sum("0x") + Sum("0y")}) == Root([]string{"x", "y"}) || Root([]string{""}) == Root(nil) {
		t.Error("Root takes an element for a digest")
	}
}

// wantProof compares Proof with what it must return.
func wantProof(t *testing.T, l []string, i int, want []string, wantErr api.Errno) {
	t.Helper()
	if proof, err := Proof(l, i); !slices.Equal(proof, want) || err != wantErr {
		t.Errorf("Proof of %d elements, %.40q, for %d is %.200q, error %d, not %.200q, error %d", len(l), l, i, proof, int(err), want, int(wantErr))
	}
}

// P6.3: few elements, with the neighbours written out; the last places have none on some levels.
func TestProofFew(t *testing.T) {
	sum := func(s string) string { return sumOf("0" + s) }
	pair := func(a, b string) string { return sumOf("1" + sum(a) + sum(b)) }
	four := sumOf("1" + pair("a", "b") + pair("c", "d"))
	for _, c := range []struct {
		s    string
		i    int
		want []string
	}{
		{"a", 0, nil}, {"ab", 0, []string{sum("b")}}, {"ab", 1, []string{sum("a")}},
		{"abc", 0, []string{sum("b"), sum("c")}}, {"abc", 1, []string{sum("a"), sum("c")}}, {"abc", 2, []string{pair("a", "b")}},
		{"abcd", 0, []string{sum("b"), pair("c", "d")}}, {"abcd", 1, []string{sum("a"), pair("c", "d")}},
		{"abcd", 2, []string{sum("d"), pair("a", "b")}}, {"abcd", 3, []string{sum("c"), pair("a", "b")}},
		{"abcde", 0, []string{sum("b"), pair("c", "d"), sum("e")}}, {"abcde", 3, []string{sum("c"), pair("a", "b"), sum("e")}}, {"abcde", 4, []string{four}},
		{"abcdef", 2, []string{sum("d"), pair("a", "b"), pair("e", "f")}}, {"abcdef", 4, []string{sum("f"), four}}, {"abcdef", 5, []string{sum("e"), four}},
		{"abcdefg", 5, []string{sum("e"), sum("g"), four}}, {"abcdefg", 6, []string{pair("e", "f"), four}},
		{"abcdefgh", 7, []string{sum("g"), pair("e", "f"), four}}, {"abcdefgh", 4, []string{sum("f"), pair("g", "h"), four}},
	} {
		wantProof(t, strings.Split(c.s, ""), c.i, c.want, api.OK)
	}
}

// P6.3: every place of lists of all lengths up to 70, and of some others.
func TestProof(t *testing.T) {
	for n := 1; n <= 70; n++ {
		for _, l := range lists(n) {
			levels := levelsOf(l)
			for i := range n {
				wantProof(t, l, i, proofOf(levels, i), api.OK)
			}
		}
	}
	for _, n := range []int{127, 128, 129, 255, 256, 257, 511, 512, 513} {
		levels := levelsOf(list(n))
		for i := range n {
			wantProof(t, list(n), i, proofOf(levels, i), api.OK)
		}
	}
	for _, n := range lengths {
		l := list(n)
		levels := levelsOf(l)
		for _, i := range []int{0, 1, 2, n / 3, n/2 - 1, n / 2, n - 3, n - 2, n - 1} {
			wantProof(t, l, i, proofOf(levels, i), api.OK)
		}
	}
}

// P6.3: places that the list does not have.
func TestProofRange(t *testing.T) {
	for _, n := range []int{0, 1, 2, 3, 4, 5, 7, 8, 9, 100, 4096, 4097, 5000} {
		for _, l := range [][]string{list(n), make([]string, n)} {
			for _, i := range append([]int{-1, n, n + 1, n + 2, 2*n + 1, 10001}, far...) {
				wantProof(t, l, i, nil, api.ErrRange)
			}
		}
	}
	for _, i := range append([]int{-1, 0, 1}, far...) {
		wantProof(t, nil, i, nil, api.ErrRange)
	}
}

// The document's common rule on memory: arguments are not changed, nor what stands behind them, and results are new.
func TestMemory(t *testing.T) {
	for n := range 34 {
		long := list(n + 5)
		l, before := long[:n], list(n+5)
		Root(l)
		for i := -1; i <= n; i++ {
			proof, _ := Proof(l, i)
			again, _ := Proof(l, i)
			copied := append(make([]string, 0, len(proof)+4), proof...)
			for j := range n + 1 {
				Check(Root(l), before[0], j, n, proof)
			}
			Check(Root(l), before[0], i, n, copied)
			if !slices.Equal(proof, again) || !slices.Equal(proof, copied) || strings.Join(copied[len(proof):cap(copied)], "") != "" {
				t.Errorf("Check changes the proof of %d elements for %d", n, i)
			}
			for j := range proof {
				proof[j] = "changed"
			}
			if later, _ := Proof(l, i); !slices.Equal(again, later) || !slices.Equal(copied, later) {
				t.Errorf("the proofs of %d elements for %d share memory", n, i)
			}
		}
		if !slices.Equal(long, before) {
			t.Errorf("a list of %d elements was changed", n)
		}
	}
}

// left returns the number of elements under the first one of the two digests that make the highest one: the greatest power of two below n.
func left(n int) int {
	k := 1
	for 2*k < n {
		k *= 2
	}
	return k
}

// depth returns on how many levels place i of a list of n elements has a neighbour.
func depth(i, n int) int {
	switch k := left(n); {
	case n == 1:
		return 0
	case i < k:
		return 1 + depth(i, k)
	default:
		return 1 + depth(i-k, n-k)
	}
}

// highest computes the highest digest from above: the last neighbour is that of one half of the list.
func highest(leaf string, i, n int, proof []string) string {
	if n == 1 {
		return Sum("0" + leaf)
	}
	k, last := left(n), len(proof)-1
	if i < k {
		return Sum("1" + highest(leaf, i, k, proof[:last]) + proof[last])
	}
	return Sum("1" + proof[last] + highest(leaf, i-k, n-k, proof[:last]))
}

// checkOf returns what the document says of Check.
func checkOf(root, leaf string, i, n int, proof []string) bool {
	if n < 1 || n > 4096 || i < 0 || i > n-1 || len(proof) != depth(i, n) {
		return false
	}
	return highest(leaf, i, n, proof) == root
}

// wantCheck compares Check with what it must return.
func wantCheck(t *testing.T, root, leaf string, i, n int, proof []string, want bool) {
	t.Helper()
	if got := Check(root, leaf, i, n, proof); got != want {
		t.Errorf("Check(%q, %.40q, %d, %d, %.200q) is %t", root, leaf, i, n, proof, got)
	}
}

// compareCheck compares Check with what the document says.
func compareCheck(t *testing.T, root, leaf string, i, n int, proof []string) {
	t.Helper()
	wantCheck(t, root, leaf, i, n, proof, checkOf(root, leaf, i, n, proof))
}

// proofFor returns a proof that there must be.
func proofFor(t *testing.T, l []string, i int) []string {
	t.Helper()
	proof, err := Proof(l, i)
	if err != api.OK {
		t.Fatalf("Proof of %d elements for %d is error %d", len(l), i, int(err))
	}
	return proof
}

// P6.4: numbers of elements that no checked list has, with the proofs of lists that have them, and with others.
func TestCheckNumber(t *testing.T) {
	for _, n := range []int{1, 2, 3, 4, 5, 2047, 2048, 2049, 4094, 4095, 4096, 4097, 4098, 8191, 8192, 8193} {
		l := list(n)
		root := Root(l)
		for _, i := range []int{0, n / 2, n - 1} {
			proof := proofFor(t, l, i)
			wantCheck(t, root, l[i], i, n, proof, n <= 4096)
			for _, other := range append([]int{-1, 0, 4097, 4098, 8192, 8193}, far...) {
				wantCheck(t, root, l[i], i, other, proof, false)
				wantCheck(t, root, l[i], other-1, other, proof, false)
			}
		}
	}
	for _, n := range append([]int{-1, 0, 4097}, far...) {
		for _, i := range append([]int{-1, 0, 1, 4096}, far...) {
			wantCheck(t, Sum("0x"), "x", i, n, nil, false)
			wantCheck(t, Sum(""), "", i, n, nil, false)
			wantCheck(t, "", "", i, n, nil, false)
		}
	}
}

// P6.4: places that the list does not have.
func TestCheckPlace(t *testing.T) {
	for _, n := range []int{1, 2, 3, 4, 5, 6, 7, 8, 9, 100, 4095, 4096} {
		l := list(n)
		root := Root(l)
		for _, i := range []int{0, n / 2, n - 1} {
			proof := proofFor(t, l, i)
			for _, other := range append([]int{-1, n, n + 1, i + n, i - n, i + 4096, i - 4096, i + 8192}, far...) {
				if other < 0 || other >= n {
					wantCheck(t, root, l[i], other, n, proof, false)
				}
			}
		}
	}
}

// P6.4: every element, place and number with every proof of small lists, with different elements and with equal ones.
func TestCheckSmall(t *testing.T) {
	for n := 1; n <= 9; n++ {
		for _, l := range lists(n) {
			root := Root(l)
			for i := range n {
				proof := proofFor(t, l, i)
				for place := -1; place <= 10; place++ {
					for number := -1; number <= 11; number++ {
						for j := range l {
							compareCheck(t, root, l[j], place, number, proof)
						}
						compareCheck(t, root, "another", place, number, proof)
					}
				}
			}
		}
	}
}

// P6.4: another number of elements, with which a place has as many neighbours, gives the same digest; with which it has more or fewer, none.
func TestCheckOtherNumber(t *testing.T) {
	l := list(3)
	root, proof := Root(l), proofFor(t, l, 0)
	wantCheck(t, root, l[0], 0, 3, proof, true)
	wantCheck(t, root, l[0], 0, 4, proof, true)
	wantCheck(t, root, l[0], 0, 2, proof, false)
	wantCheck(t, root, l[0], 0, 5, proof, false)
	last := proofFor(t, l, 2)
	wantCheck(t, root, l[2], 2, 3, last, true)
	wantCheck(t, root, l[2], 1, 2, last, true)
	wantCheck(t, root, l[2], 4, 5, last, true)
	wantCheck(t, root, l[2], 2, 4, last, false)
	wantCheck(t, Root([]string{"x", "x"}), "x", 1, 2, proofFor(t, []string{"x", "x"}, 0), true)
	for _, n := range []int{60, 64, 65} {
		l := list(n)
		root := Root(l)
		for i := range n {
			proof := proofFor(t, l, i)
			for number := range 140 {
				compareCheck(t, root, l[i], i, number, proof)
			}
			for place := range n {
				compareCheck(t, root, l[i], place, n, proof)
			}
		}
	}
}

// damaged returns proofs that are like a given one, but for one change.
func damaged(proof []string) [][]string {
	all := [][]string{nil, {}, append(slices.Clone(proof), Sum("0")), append(slices.Clone(proof), ""), append([]string{Sum("0")}, proof...), append([]string{""}, proof...), append(slices.Clone(proof), proof...)}
	for i := range proof {
		all = append(all, slices.Delete(slices.Clone(proof), i, i+1), slices.Insert(slices.Clone(proof), i, proof[i]))
		for _, other := range append([]string{strings.ToUpper(proof[i]), proof[i] + "0", proof[i][1:], proof[i][:15], Sum(proof[i])}, odd...) {
			changed := slices.Clone(proof)
			changed[i] = other
			all = append(all, changed)
		}
		for j := range i {
			changed := slices.Clone(proof)
			changed[i], changed[j] = changed[j], changed[i]
			all = append(all, changed)
		}
	}
	return all
}

// P6.4: one neighbour less and one more, a changed one, exchanged ones, and none.
func TestCheckProof(t *testing.T) {
	for _, n := range []int{1, 2, 3, 4, 5, 6, 7, 8, 9, 13, 16, 17, 33, 100, 1000, 4095, 4096} {
		l := list(n)
		root := Root(l)
		for _, i := range []int{0, n / 3, n / 2, n - 1} {
			proof := proofFor(t, l, i)
			wantCheck(t, root, l[i], i, n, proof, true)
			for _, other := range damaged(proof) {
				wantCheck(t, root, l[i], i, n, other, slices.Equal(other, proof))
				compareCheck(t, root, l[i], i, n, other)
			}
		}
	}
}

// P6.4: another root, and texts that are no digest.
func TestCheckRoot(t *testing.T) {
	for _, n := range []int{1, 2, 3, 5, 8, 100, 4096} {
		l := list(n)
		root := Root(l)
		for _, i := range []int{0, n / 2, n - 1} {
			proof := proofFor(t, l, i)
			for _, other := range append([]string{strings.ToUpper(root), root + "0", root[1:], root[:15], " " + root, root + "\n", Sum(root), Root(l[1:]), Root(append(list(n), "")), Sum("0" + l[i] + "0")}, odd...) {
				wantCheck(t, other, l[i], i, n, proof, false)
			}
			for at := range len(root) {
				changed := []byte(root)
				changed[at] = digits[(strings.IndexByte(digits, root[at])+1)%16]
				wantCheck(t, string(changed), l[i], i, n, proof, false)
			}
		}
	}
}

// P6.4: neighbours and elements may be any strings: the highest digest is computed from them as it is from digests.
func TestCheckOdd(t *testing.T) {
	for _, a := range odd {
		wantCheck(t, Sum("0"+a), a, 0, 1, nil, true)
		wantCheck(t, Sum("0"+a), a, 0, 1, []string{}, true)
		wantCheck(t, Sum("0"+a), a, 0, 1, []string{""}, false)
		for _, b := range odd {
			wantCheck(t, Sum("1"+Sum("0"+a)+b), a, 0, 2, []string{b}, true)
			wantCheck(t, Sum("1"+b+Sum("0"+a)), a, 1, 2, []string{b}, true)
			wantCheck(t, Sum("1"+b+Sum("0"+a)), a, 2, 3, []string{b}, true)
			wantCheck(t, Sum("1"+Sum("1"+a+Sum("0"+b))+b), b, 1, 3, []string{a, b}, true)
			wantCheck(t, Sum("1"+a+Sum("1"+Sum("0x")+b)), "x", 2, 4, []string{b, a}, true)
			wantCheck(t, Sum("1"+a+Sum("1"+Sum("0x")+b)), "x", 2, 4, []string{a, b}, a == b)
		}
	}
	random := rand.New(rand.NewSource(64))
	for range 20000 {
		n := 1 + random.Intn(20)
		i, proof := random.Intn(n), make([]string, random.Intn(7))
		for j := range proof {
			proof[j] = odd[random.Intn(len(odd))]
		}
		root := Sum("")
		if len(proof) == depth(i, n) {
			root = highest("x", i, n, proof)
		}
		wantCheck(t, root, "x", i, n, proof, len(proof) == depth(i, n))
	}
}

// checkPlaces checks what P6.5 says of every place of a list, with the same element and with others.
func checkPlaces(t *testing.T, l []string, others ...string) {
	t.Helper()
	root := Root(l)
	for i, element := range l {
		proof := proofFor(t, l, i)
		wantCheck(t, root, element, i, len(l), proof, true)
		for _, other := range others {
			wantCheck(t, root, other, i, len(l), proof, other == element)
		}
	}
}

// P6.5: every place of lists of many lengths, up to 4096 elements.
func TestProofs(t *testing.T) {
	for n := 1; n <= 130; n++ {
		t.Run("", func(t *testing.T) {
			t.Parallel()
			for _, l := range lists(n) {
				checkPlaces(t, l, "another", "", "x", "element 0")
			}
		})
	}
	for _, n := range []int{255, 256, 257, 1000, 1023, 1024, 1025, 2047, 2048, 2049, 3073, 4095, 4096} {
		t.Run("", func(t *testing.T) {
			t.Parallel()
			checkPlaces(t, list(n), "another", "", "element 0", "element 4095")
		})
	}
}

// P6.5: Check with another element is true exactly if the list with that element has the same root, which it has with a twin.
func TestProofsReplaced(t *testing.T) {
	if twin == otherTwin || sumOf("0"+twin) != sumOf("0"+otherTwin) {
		t.Fatal("the twins do not have the same digest")
	}
	for n := 1; n <= 70; n++ {
		for i := range n {
			for _, element := range []string{"x", "", twin, otherTwin} {
				l := list(n)
				l[i] = element
				root, proof := Root(l), proofFor(t, l, i)
				for _, other := range []string{"x", "", "element 0", twin, otherTwin, twin + "x"} {
					l[i] = other
					wantCheck(t, root, other, i, n, proof, Root(l) == root)
					same := other == element || other == twin && element == otherTwin || other == otherTwin && element == twin
					wantCheck(t, root, other, i, n, proof, same)
				}
			}
		}
	}
}
