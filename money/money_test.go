package money

import (
	"fmt"
	"math"
	"math/big"
	"regexp"
	"slices"
	"strings"
	"testing"

	"library/api"
)

// outside are numbers that are no amounts; some of them wrap around in a sum or a product.
var outside = []int{
	math.MinInt, math.MinInt + 1, math.MinInt / 10, math.MinInt / 1000, math.MinInt32, -1 << 32, -api.MaxMoney - 1, -api.MaxMoney, -1000, -100, -2, -1,
	api.MaxMoney + 1, api.MaxMoney + 2, 2 * api.MaxMoney, math.MaxInt32, 1 << 32, 1<<32 + 1, math.MaxInt / 1000, math.MaxInt / 10, math.MaxInt/2 + 1, math.MaxInt - 1, math.MaxInt,
}

// inside are amounts, those next to the bounds among them.
var inside = []int{0, 1, 2, 5, 9, 10, 11, 25, 35, 50, 99, 100, 101, 109, 110, 999, 1000, 1001, 1234, 99999, 100000, 50000000, 99999998, 99999999, 100000000}

// shape is what the document says of a text of an amount.
var shape = regexp.MustCompile(`\A(0|[1-9][0-9]*)\.[0-9][0-9]\z`)

// checkAdd compares Add with what it must return.
func checkAdd(t *testing.T, a, b, want int, wantErr api.Errno) {
	t.Helper()
	if n, err := Add(a, b); n != want || err != wantErr {
		t.Errorf("Add(%d, %d) is %d, error %d, not %d, error %d", a, b, n, int(err), want, int(wantErr))
	}
}

// checkPermille compares Permille with what it must return.
func checkPermille(t *testing.T, n, rate, want int) {
	t.Helper()
	if part := Permille(n, rate); part != want {
		t.Errorf("Permille(%d, %d) is %d, not %d", n, rate, part, want)
	}
}

// checkShare compares Share with what it must return, and its argument with what it was.
func checkShare(t *testing.T, total int, weights, want []int, wantErr api.Errno) {
	t.Helper()
	before := slices.Clone(weights)
	parts, err := Share(total, weights)
	if !slices.Equal(parts, want) || err != wantErr {
		t.Errorf("Share(%d, %d) is %d, error %d, not %d, error %d", total, before, parts, int(err), want, int(wantErr))
	}
	if !slices.Equal(weights, before) {
		t.Errorf("Share(%d, %d) changed the weights to %d", total, before, weights)
	}
}

// checkParse compares Parse with what it must return.
func checkParse(t *testing.T, s string, want int, wantErr api.Errno) {
	t.Helper()
	if n, err := Parse(s); n != want || err != wantErr {
		t.Errorf("Parse(%q) is %d, error %d, not %d, error %d", s, n, int(err), want, int(wantErr))
	}
}

// checkParseShape compares Parse with what the document says, with the number of the text in integers of any size.
func checkParseShape(t *testing.T, s string) {
	t.Helper()
	if !shape.MatchString(s) {
		checkParse(t, s, 0, api.ErrForm)
		return
	}
	n, ok := new(big.Int).SetString(strings.Replace(s, ".", "", 1), 10)
	if !ok {
		t.Fatalf("%q has no number", s)
	}
	if n.Cmp(big.NewInt(api.MaxMoney)) > 0 {
		checkParse(t, s, 0, api.ErrRange)
		return
	}
	checkParse(t, s, int(n.Int64()), api.OK)
}

// repeat lists a weight n times.
func repeat(n, w int) []int {
	return slices.Repeat([]int{w}, n)
}

// P4.1 to P4.5: the chapter's examples.
func TestExamples(t *testing.T) {
	checkShare(t, 100, []int{1, 1, 1}, []int{34, 33, 33}, api.OK)
	checkPermille(t, 25, 100, 2)
	checkPermille(t, 35, 100, 4)
	if a, b := Format(1234), Format(5); a != "12.34" || b != "0.05" {
		t.Errorf("Format gives %q and %q", a, b)
	}
	checkParse(t, "01.00", 0, api.ErrForm)
	checkParse(t, "1000000.01", 0, api.ErrRange)
}

// P4.1: amounts, and numbers that are none.
func TestRight(t *testing.T) {
	for _, n := range inside {
		if !Right(n) {
			t.Errorf("Right(%d) is false", n)
		}
	}
	for _, n := range outside {
		if Right(n) {
			t.Errorf("Right(%d) is true", n)
		}
	}
}

// P4.1: sums of amounts, below, at and above the greatest one.
func TestAdd(t *testing.T) {
	for _, a := range inside {
		for _, b := range inside {
			if sum := a + b; sum <= 100000000 {
				checkAdd(t, a, b, sum, api.OK)
			} else {
				checkAdd(t, a, b, 0, api.ErrRange)
			}
		}
		checkAdd(t, a, 100000000-a, 100000000, api.OK)
		checkAdd(t, a, 100000001-a, 0, api.ErrRange)
	}
	checkAdd(t, 12, 30, 42, api.OK)
	checkAdd(t, 50000000, 50000000, 100000000, api.OK)
	checkAdd(t, 50000001, 50000000, 0, api.ErrRange)
}

// P4.1: numbers that are no amounts have no sum, though their sum is one, or would be one if it wrapped around.
func TestAddOutside(t *testing.T) {
	for _, a := range outside {
		for _, b := range outside {
			checkAdd(t, a, b, 0, api.ErrRange)
		}
		for _, b := range inside {
			checkAdd(t, a, b, 0, api.ErrRange)
			checkAdd(t, b, a, 0, api.ErrRange)
		}
	}
	checkAdd(t, -1, 1, 0, api.ErrRange)
	checkAdd(t, 1, -1, 0, api.ErrRange)
	checkAdd(t, -5, 100, 0, api.ErrRange)
	checkAdd(t, 100, -5, 0, api.ErrRange)
	checkAdd(t, 100000001, -1, 0, api.ErrRange)
	checkAdd(t, -1, 100000001, 0, api.ErrRange)
	checkAdd(t, math.MinInt, math.MinInt, 0, api.ErrRange)
	checkAdd(t, math.MaxInt, math.MinInt, 0, api.ErrRange)
}

// P4.2: between two integers, and as near to one as to the other, with an even and an odd one below.
func TestPermille(t *testing.T) {
	for _, c := range []struct{ n, rate, want int }{
		{5, 100, 0}, {15, 100, 2}, {25, 100, 2}, {35, 100, 4}, {45, 100, 4}, {55, 100, 6}, {1, 500, 0}, {2, 500, 1}, {3, 500, 2}, {5, 500, 2}, {7, 500, 4},
		{4, 125, 0}, {12, 125, 2}, {20, 125, 2}, {28, 125, 4}, {500, 1, 0}, {1500, 1, 2}, {2500, 1, 2}, {3500, 3, 10}, {500, 999, 500}, {1500, 999, 1498}, {500, 997, 498},
		{24, 100, 2}, {26, 100, 3}, {34, 100, 3}, {36, 100, 4}, {499, 1, 0}, {501, 1, 1}, {1499, 1, 1}, {1501, 1, 2}, {1, 499, 0}, {1, 501, 1}, {1, 1, 0}, {1, 999, 1},
		{0, 0, 0}, {0, 500, 0}, {0, 1000, 0}, {1, 0, 0}, {1, 1000, 1}, {1234, 0, 0}, {1234, 1000, 1234}, {1234, 999, 1233}, {1234, 1, 1},
		{100000000, 0, 0}, {100000000, 1, 100000}, {100000000, 500, 50000000}, {100000000, 999, 99900000}, {100000000, 1000, 100000000},
		{99999999, 0, 0}, {99999999, 1, 100000}, {99999999, 500, 50000000}, {99999997, 500, 49999998}, {99999999, 1000, 99999999}, {99999500, 1, 100000}, {99998500, 1, 99998}, {99999999, 999, 99899999},
	} {
		checkPermille(t, c.n, c.rate, c.want)
	}
}

// P4.2: numbers that are no amounts, and rates that are none.
func TestPermilleOutside(t *testing.T) {
	rates := []int{math.MinInt, math.MinInt / 1000, math.MinInt32, -1 << 32, -1000, -500, -2, -1, 1001, 1002, 2000, 1 << 32, 1<<32 + 500, math.MaxInt32, math.MaxInt / 1000, math.MaxInt}
	for _, rate := range rates {
		for _, n := range append(slices.Clone(inside), outside...) {
			checkPermille(t, n, rate, 0)
		}
	}
	for _, n := range outside {
		for rate := range 1001 {
			checkPermille(t, n, rate, 0)
		}
	}
}

// P4.2 and P4.7: every rate of the least and of the greatest amounts, and of some between them.
func TestPermilleAll(t *testing.T) {
	for _, first := range []int{0, 49999000, 99998001} {
		for n := first; n < first+2000; n++ {
			for rate := range 1001 {
				checkNearest(t, n, rate)
				checkGrows(t, n, rate)
				if t.Failed() {
					return
				}
			}
		}
	}
}

// checkNearest checks that Permille gives the nearest integer, or the even one of two that are equally near.
func checkNearest(t *testing.T, n, rate int) {
	t.Helper()
	part := Permille(n, rate)
	off := 1000*part - n*rate
	if off < -500 || off > 500 || (off == -500 || off == 500) && part%2 != 0 {
		t.Errorf("Permille(%d, %d) is %d", n, rate, part)
	}
}

// checkGrows checks what P4.7 says of Permille.
func checkGrows(t *testing.T, n, rate int) {
	t.Helper()
	part := Permille(n, rate)
	if part < 0 || part > n {
		t.Errorf("Permille(%d, %d) is %d", n, rate, part)
	}
	if n < api.MaxMoney && part > Permille(n+1, rate) {
		t.Errorf("Permille(%d, %d) is %d, greater than that of the next amount", n, rate, part)
	}
	if rate < 1000 && part > Permille(n, rate+1) {
		t.Errorf("Permille(%d, %d) is %d, greater than that of the next rate", n, rate, part)
	}
	if sum := part + Permille(n, 1000-rate); sum < n-1 || sum > n+1 {
		t.Errorf("Permille of %d at %d and at the rest of 1000 sum up to %d", n, rate, sum)
	}
}

// P4.7: the permilles of a rate and of the rest can be one more, one less, and as much as the amount.
func TestPermilleSums(t *testing.T) {
	for _, c := range []struct{ n, rate, want int }{{1, 500, 0}, {3, 500, 4}, {2, 500, 2}, {25, 100, 24}, {15, 100, 16}, {100, 333, 100}} {
		if sum := Permille(c.n, c.rate) + Permille(c.n, 1000-c.rate); sum != c.want {
			t.Errorf("Permille of %d at %d and at the rest of 1000 sum up to %d, not %d", c.n, c.rate, sum, c.want)
		}
	}
}

// P4.3: numbers and values of weights within the bounds and just outside of them.
func TestShareBounds(t *testing.T) {
	checkShare(t, 100, nil, nil, api.ErrArg)
	checkShare(t, 100, []int{}, nil, api.ErrArg)
	checkShare(t, 100, []int{1}, []int{100}, api.OK)
	checkShare(t, 160, repeat(16, 1), repeat(16, 10), api.OK)
	checkShare(t, 170, repeat(17, 1), nil, api.ErrArg)
	checkShare(t, 170, repeat(1000, 1), nil, api.ErrArg)
	checkShare(t, 100, append(repeat(16, 1), 0), nil, api.ErrArg)
	for _, w := range []int{math.MinInt, math.MinInt + 1, math.MinInt32, -1 << 32, -1000, -2, -1, 1001, 1002, math.MaxInt32, 1 << 32, 1<<32 + 1, math.MaxInt - 1, math.MaxInt} {
		checkShare(t, 100, []int{w}, nil, api.ErrArg)
		checkShare(t, 0, []int{w}, nil, api.ErrArg)
		checkShare(t, 100, []int{w, 1}, nil, api.ErrArg)
		checkShare(t, 100, []int{1, w}, nil, api.ErrArg)
		checkShare(t, 100, []int{1, w, 1}, nil, api.ErrArg)
		checkShare(t, 100, append(repeat(15, 1000), w), nil, api.ErrArg)
		// The sum of both, as it may wrap around, is a sum of weights.
		checkShare(t, 100, []int{w, 5 - w}, nil, api.ErrArg)
	}
	checkShare(t, 100, []int{0, 1000}, []int{0, 100}, api.OK)
	checkShare(t, 100, []int{1000, 0}, []int{100, 0}, api.OK)
	checkShare(t, 100, []int{1, 999}, []int{0, 100}, api.OK)
	checkShare(t, 1001, []int{1, 1000}, []int{1, 1000}, api.OK)
}

// P4.3: weights that are all 0.
func TestShareZeros(t *testing.T) {
	for n := range 18 {
		for _, total := range []int{0, 1, 100, api.MaxMoney} {
			checkShare(t, total, repeat(n, 0), nil, api.ErrArg)
		}
	}
	checkShare(t, 7, []int{0, 0, 1}, []int{0, 0, 7}, api.OK)
	checkShare(t, 7, []int{1, 0, 0}, []int{7, 0, 0}, api.OK)
	checkShare(t, 7, append(repeat(15, 0), 1), append(repeat(15, 0), 7), api.OK)
}

// P4.3: totals that are amounts, and others.
func TestShareTotals(t *testing.T) {
	for _, total := range inside {
		checkShare(t, total, []int{1}, []int{total}, api.OK)
		checkShare(t, total, []int{1000}, []int{total}, api.OK)
		checkShare(t, total, []int{0, 7, 0}, []int{0, total, 0}, api.OK)
		checkShare(t, total, []int{3, 3}, []int{(total + 1) / 2, total / 2}, api.OK)
	}
	for _, total := range outside {
		checkShare(t, total, []int{1}, nil, api.ErrArg)
		checkShare(t, total, []int{1, 1, 1}, nil, api.ErrArg)
		checkShare(t, total, repeat(16, 1000), nil, api.ErrArg)
		checkShare(t, total, nil, nil, api.ErrArg)
		checkShare(t, total, []int{-1}, nil, api.ErrArg)
	}
	checkShare(t, 0, []int{1, 2, 3}, []int{0, 0, 0}, api.OK)
	checkShare(t, 0, repeat(16, 1000), repeat(16, 0), api.OK)
	checkShare(t, 100000000, repeat(16, 1000), repeat(16, 6250000), api.OK)
	checkShare(t, 100000000, []int{1, 1, 1}, []int{33333334, 33333333, 33333333}, api.OK)
	checkShare(t, 100000000, []int{1000, 999, 1}, []int{50000000, 49950000, 50000}, api.OK)
	checkShare(t, 100000000, []int{1000, 1000, 1}, []int{49975013, 49975012, 49975}, api.OK)
}

// P4.3: the cents that are left, none and as many as there can be, with equal remainders and with others.
func TestShareLeft(t *testing.T) {
	for _, c := range []struct {
		total         int
		weights, want []int
	}{
		{6, []int{1, 2, 3}, []int{1, 2, 3}}, {60, []int{3, 2, 1}, []int{30, 20, 10}}, {12, []int{0, 2, 1, 0}, []int{0, 8, 4, 0}},
		{1, []int{1, 1}, []int{1, 0}}, {3, []int{1, 1}, []int{2, 1}}, {1, []int{1, 1, 1}, []int{1, 0, 0}}, {2, []int{1, 1, 1}, []int{1, 1, 0}}, {5, []int{1, 1, 1}, []int{2, 2, 1}},
		{1, []int{1, 2}, []int{0, 1}}, {1, []int{2, 1}, []int{1, 0}}, {1, []int{1, 2, 2}, []int{0, 1, 0}}, {2, []int{1, 2, 2}, []int{0, 1, 1}}, {2, []int{2, 1, 2}, []int{1, 0, 1}},
		{5, []int{1, 3}, []int{1, 4}}, {10, []int{1, 2, 4}, []int{1, 3, 6}}, {10, []int{4, 2, 1}, []int{6, 3, 1}}, {100, []int{3, 3, 1}, []int{43, 43, 14}}, {10, []int{3, 3, 1}, []int{4, 4, 2}},
		{1, []int{0, 1, 1}, []int{0, 1, 0}}, {1, []int{0, 0, 0, 1, 0, 1}, []int{0, 0, 0, 1, 0, 0}}, {3, []int{1, 0, 1}, []int{2, 0, 1}},
		{5, []int{999, 1000, 1}, []int{2, 3, 0}}, {3, []int{1, 999, 1000}, []int{0, 1, 2}}, {7, []int{5, 5, 4}, []int{3, 2, 2}}, {9, []int{1, 5, 6}, []int{1, 4, 4}},
	} {
		checkShare(t, c.total, c.weights, c.want, api.OK)
	}
}

// P4.3: equal weights leave from no cent up to one less than there are weights, which go to the first ones.
func TestShareEqual(t *testing.T) {
	for n := 1; n <= 16; n++ {
		for _, w := range []int{1, 2, 7, 1000} {
			for total := range 5 * n {
				want := repeat(n, total/n)
				for i := range total % n {
					want[i]++
				}
				checkShare(t, total, repeat(n, w), want, api.OK)
			}
		}
	}
	checkShare(t, 99999999, repeat(16, 1000), append(repeat(15, 6250000), 6249999), api.OK)
	checkShare(t, 99999985, repeat(16, 1000), append([]int{6250000}, repeat(15, 6249999)...), api.OK)
}

// shareOf divides by the definition: the parts in the order of their remainders, and of their indices.
func shareOf(total int, weights []int) []int {
	sum := 0
	for _, w := range weights {
		sum += w
	}
	var parts, order []int
	left := total
	for i, w := range weights {
		parts, order = append(parts, total*w/sum), append(order, i)
		left -= parts[i]
	}
	slices.SortFunc(order, func(i, j int) int {
		if a, b := total*weights[i]%sum, total*weights[j]%sum; a != b {
			return b - a
		}
		return i - j
	})
	for _, i := range order[:left] {
		parts[i]++
	}
	return parts
}

// checkParts checks what P4.6 says of the parts of Share.
func checkParts(t *testing.T, total int, weights []int) {
	t.Helper()
	parts, err := Share(total, weights)
	if err != api.OK || len(parts) != len(weights) {
		t.Fatalf("Share(%d, %d) is %d, error %d", total, weights, parts, int(err))
	}
	sum, sumOfParts := 0, 0
	for i, w := range weights {
		sum, sumOfParts = sum+w, sumOfParts+parts[i]
	}
	if sumOfParts != total {
		t.Errorf("Share(%d, %d) is %d, which sums up to %d", total, weights, parts, sumOfParts)
	}
	for i, w := range weights {
		if off := parts[i]*sum - total*w; off <= -sum || off >= sum || w == 0 && parts[i] != 0 {
			t.Errorf("Share(%d, %d) is %d: part %d", total, weights, parts, i)
		}
		for j, v := range weights {
			if w > v && parts[i] < parts[j] {
				t.Errorf("Share(%d, %d) is %d: parts %d and %d", total, weights, parts, i, j)
			}
		}
	}
}

// P4.3 and P4.6: all lists of up to four small weights, and of some great ones, with all small totals and some great ones.
func TestShareAll(t *testing.T) {
	totals := []int{99999983, 99999999, 100000000}
	for total := range 24 {
		totals = append(totals, total)
	}
	for _, values := range [][]int{{0, 1, 2, 3, 5}, {0, 1, 333, 999, 1000}} {
		for n := 1; n <= 4; n++ {
			eachList(values, n, func(weights []int) {
				if slices.Max(weights) == 0 {
					checkShare(t, 1, weights, nil, api.ErrArg)
					return
				}
				for _, total := range totals {
					checkShare(t, total, weights, shareOf(total, weights), api.OK)
					checkParts(t, total, weights)
				}
			})
		}
	}
}

// eachList calls f with every list of n of some values.
func eachList(values []int, n int, f func([]int)) {
	list := make([]int, n)
	var fill func(i int)
	fill = func(i int) {
		if i == n {
			f(list)
			return
		}
		for _, v := range values {
			list[i] = v
			fill(i + 1)
		}
	}
	fill(0)
}

// P4.3 and P4.6: long lists of weights of many kinds.
func TestShareLong(t *testing.T) {
	for step := range 1001 {
		weights := make([]int, 1+step%16)
		for i := range weights {
			weights[i] = (step*(i+3) + 7*i*i) % 1001
		}
		weights[step%len(weights)] = 1 + step%1000
		for _, total := range []int{0, 1, step, 100 * step, 99999 * step, 100000000 - step, 100000000} {
			checkShare(t, total, weights, shareOf(total, weights), api.OK)
			checkParts(t, total, weights)
		}
	}
}

// P4.3: the parts are a list of their own.
func TestShareMemory(t *testing.T) {
	weights := []int{1, 1}
	a, _ := Share(10, weights)
	b, _ := Share(10, weights)
	a[0], a[1] = 7, 8
	if !slices.Equal(weights, []int{1, 1}) || !slices.Equal(b, []int{5, 5}) {
		t.Errorf("the parts share memory with the weights %d or with other parts %d", weights, b)
	}
}

// P4.4: texts of amounts, and of numbers that are none.
func TestFormat(t *testing.T) {
	for n, want := range map[int]string{
		0: "0.00", 1: "0.01", 5: "0.05", 9: "0.09", 10: "0.10", 11: "0.11", 50: "0.50", 99: "0.99", 100: "1.00", 101: "1.01", 110: "1.10", 999: "9.99", 1000: "10.00", 1005: "10.05", 1234: "12.34",
		100000: "1000.00", 12345678: "123456.78", 99999999: "999999.99", 100000000: "1000000.00",
	} {
		if s := Format(n); s != want {
			t.Errorf("Format(%d) is %q, not %q", n, s, want)
		}
	}
	for _, n := range outside {
		if s := Format(n); s != "" {
			t.Errorf("Format(%d) is %q", n, s)
		}
	}
}

// P4.4, P4.5 and P4.7: there and back, from many amounts.
func TestFormatParse(t *testing.T) {
	check := func(n int) {
		s := Format(n)
		if want := fmt.Sprintf("%d.%02d", n/100, n%100); s != want {
			t.Errorf("Format(%d) is %q, not %q", n, s, want)
		}
		checkParse(t, s, n, api.OK)
	}
	for n := range 200000 {
		check(n)
		check(api.MaxMoney - n)
	}
	for n := 0; n <= api.MaxMoney; n += 997 {
		check(n)
	}
}

// P4.5: texts with and without leading zeros, at the greatest amount and above it.
func TestParse(t *testing.T) {
	for s, want := range map[string]int{
		"0.00": 0, "0.01": 1, "0.10": 10, "0.99": 99, "1.00": 100, "9.09": 909, "10.00": 1000, "12.34": 1234, "100.05": 10005, "999999.99": 99999999, "1000000.00": 100000000,
	} {
		checkParse(t, s, want, api.OK)
	}
	for _, s := range []string{
		"00.00", "01.00", "00.01", "09.99", "010.00", "000000.00", "0999999.99", "01000000.00", "01000000.01", "0" + strings.Repeat("9", 300) + ".00", strings.Repeat("0", 300) + ".00", "00001.00",
		"", "0", "1", "12", "123", "1234", ".", "..", "...", "....", ".0", ".00", ".000", ".01", ".99", "0.", "0.0", "1.", "1.2", "12.3", "0.000", "1.000", "1.234", "12.3456", "1000000.000", "1000000.010",
		"1..00", "1.00.", "1.0.0", ".1.00", "1.2.34", "1.234.56", "1,234.56", "1,00", "1;00", "1:00", "1-00", "1 00", "1/00", "100", "1\x0000", "1'000.00", "1_000.00",
		"-1.00", "+1.00", "--1.00", "-0.00", "+0.00", "-.00", "+.00", "1.-1", "1.+1", "1.1-", "1.-0", "1-.00", "1.00-", "1.00+", "-", "+", "-1000000.01",
		" 1.00", "1.00 ", "1 .00", "1. 00", "1. 0", "1.0 ", " .00", " 0.00", "\t1.00", "1.00\n", "1.00\x00", "\x001.00", "1 000.00", "1\u00a0000.00", "1.0\u00a0",
		"a.00", "1.a0", "1.0a", "1e3.00", "0x1.00", "1.0e", "1e.00", "O.OO", "NaN", "Inf", "1.00€", "€1.00", "$1.00", "１.００", "١.٠٠", "1．00", "1.\xff0", "\xff.00", "1\xff00", "½.00",
	} {
		checkParse(t, s, 0, api.ErrForm)
		checkParseShape(t, s)
	}
}

// P4.5: texts above the greatest amount, with up to some hundred digits, among them those that wrap around.
func TestParseRange(t *testing.T) {
	for _, s := range []string{
		"1000000.01", "1000000.09", "1000000.10", "1000000.99", "1000001.00", "1000010.00", "1100000.00", "2000000.00", "9999999.99", "10000000.00", "10000000.01", "100000000.00", "100000000.01", "1000000000.00",
		"21474836.47", "21474836.48", "42949672.96", "42949672.97", "4294967296.00", "92233720368547758.07", "92233720368547758.08", "184467440737095516.15", "184467440737095516.16", "184467440737095516.17",
		"9223372036854775807.00", "9223372036854775808.00", "18446744073709551615.00", "18446744073709551616.00", "18446744073709551617.00", "340282366920938463463374607431768211456.00", "3402823669209384634633746074317682114.56",
	} {
		checkParse(t, s, 0, api.ErrRange)
		checkParseShape(t, s)
	}
	for n := 8; n <= 700; n++ {
		checkParse(t, "1"+strings.Repeat("0", n-1)+".00", 0, api.ErrRange)
		checkParse(t, strings.Repeat("9", n)+".99", 0, api.ErrRange)
		checkParse(t, strings.Repeat("9", n)+".9", 0, api.ErrForm)
		checkParse(t, strings.Repeat("9", n)+".999", 0, api.ErrForm)
		checkParse(t, strings.Repeat("9", n), 0, api.ErrForm)
		checkParse(t, "0"+strings.Repeat("9", n)+".99", 0, api.ErrForm)
		checkParse(t, strings.Repeat("9", n)+"x.99", 0, api.ErrForm)
		checkParse(t, strings.Repeat("9", n)+".9x", 0, api.ErrForm)
		checkParse(t, "-"+strings.Repeat("9", n)+".99", 0, api.ErrForm)
	}
}

// P4.5: multiples of 2^64 cents, and amounts behind them, at which a number of 64 bits is an amount again.
func TestParseWraps(t *testing.T) {
	around := new(big.Int).Lsh(big.NewInt(1), 64)
	base := new(big.Int)
	for range 300 {
		base.Add(base, around)
		for _, n := range []int64{0, 1, 100, 1234, api.MaxMoney} {
			s := new(big.Int).Add(base, big.NewInt(n)).String()
			checkParse(t, s[:len(s)-2]+"."+s[len(s)-2:], 0, api.ErrRange)
		}
	}
}

// P4.5: every byte at every place of some texts, in the place of another one and as one more, and one byte less.
func TestParseForm(t *testing.T) {
	for _, s := range []string{"0.00", "1.00", "12.34", "987654.32", "1000000.00"} {
		for i := range len(s) {
			for c := range 256 {
				b := string([]byte{byte(c)})
				checkParseShape(t, s[:i]+b+s[i+1:])
				checkParseShape(t, s[:i]+b+s[i:])
				checkParseShape(t, s+b)
			}
			checkParseShape(t, s[:i])
			checkParseShape(t, s[:i]+s[i+1:])
		}
	}
}

// P4.5: all texts of up to six of some bytes.
func TestParseAll(t *testing.T) {
	for n := range 7 {
		eachList([]int{'0', '1', '9', '.', '-', '+', ' ', ','}, n, func(list []int) {
			s := make([]byte, n)
			for i, c := range list {
				s[i] = byte(c)
			}
			checkParseShape(t, string(s))
		})
	}
}
