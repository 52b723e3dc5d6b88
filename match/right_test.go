package match

import (
	"fmt"
	"math"
	"slices"
	"strconv"
	"strings"
	"testing"

	"library/api"
)

// errorIf returns an error if it applies.
func errorIf(applies bool, err api.Errno) api.Errno {
	if applies {
		return err
	}
	return api.OK
}

// keyList returns n keys without a fault that differ from one another.
func keyList(n int) []api.MatchKey {
	var l []api.MatchKey
	for i := range n {
		l = append(l, key(strconv.Itoa(100+i%900), allCodes[i%len(allCodes)], i%5, i%100+1))
	}
	return l
}

// wantKey checks Right of a key alone, and of the same one before, behind and among other ones.
func wantKey(t *testing.T, k api.MatchKey, want api.Errno) {
	t.Helper()
	wantRight(t, rule(100, k), want)
	for i := range 8 {
		l := keyList(8)
		l[i] = k
		wantRight(t, rule(1+i, l...), want)
	}
}

// wrongKeys returns keys with one fault each, and the errors.
func wrongKeys() map[api.MatchKey]api.Errno {
	return map[api.MatchKey]api.Errno{
		key("24a", 'a', 0, 1):    api.ErrTag,
		key("009", 'a', 0, 1):    api.ErrTag,
		key("", 'a', 0, 1):       api.ErrTag,
		key("245", 'A', 0, 1):    api.ErrArg,
		key("245", 0, 0, 1):      api.ErrArg,
		key("245", 'a', -1, 1):   api.ErrRange,
		key("245", 'a', 5, 1):    api.ErrRange,
		key("245", 'a', 0, 0):    api.ErrRange,
		key("245", 'a', 0, 101):  api.ErrRange,
		key("245", 'a', 5, 101):  api.ErrRange,
		key("245", '-', 5, 0):    api.ErrArg,
		key("2450", '-', -1, -1): api.ErrTag,
		{}:                       api.ErrTag,
	}
}

// P15.1: no keys, one, MaxKeys and more; these errors come before those of keys and of Need.
func TestRightNumber(t *testing.T) {
	if api.MaxKeys != 8 {
		t.Errorf("MaxKeys is %d", api.MaxKeys)
	}
	for _, need := range []int{-1, 0, 1, 800, 801} {
		wantRight(t, rule(need), api.ErrMissing)
		wantRight(t, api.MatchRule{Keys: []api.MatchKey{}, Need: need}, api.ErrMissing)
		for n := 9; n < 40; n++ {
			wantRight(t, rule(need, keyList(n)...), api.ErrFull)
		}
	}
	for n := 1; n <= 8; n++ {
		wantRight(t, rule(100, keyList(n)...), api.OK)
	}
	wantRight(t, rule(800, slices.Repeat([]api.MatchKey{key("245", 'a', 1, 100)}, 8)...), api.OK)
	for _, n := range []int{255, 256, 257, 264, 65536, 65537} {
		wantRight(t, rule(100, keyList(n)...), api.ErrFull)
		wantRight(t, rule(0, make([]api.MatchKey, n)...), api.ErrFull)
	}
	for wrong := range wrongKeys() {
		for _, n := range []int{9, 10, 20} {
			for _, i := range []int{0, 1, 7, 8, n - 1} {
				l := keyList(n)
				l[i] = wrong
				wantRight(t, rule(100, l...), api.ErrFull)
			}
		}
	}
}

// P15.1: tags of three digits from 010 to 999, and all else.
func TestRightTag(t *testing.T) {
	for n := range 10000 {
		for _, form := range []string{"%d", "%02d", "%03d", "%04d", "%5d"} {
			tag := fmt.Sprintf(form, n)
			want := errorIf(len(tag) != 3 || n < 10, api.ErrTag)
			if got := Right(rule(1, key(tag, 'a', 0, 1))); got != want {
				t.Errorf("Right is %d for the tag %q, want %d", int(got), tag, int(want))
			}
		}
	}
	for tag, want := range map[string]api.Errno{
		"": api.ErrTag, "1": api.ErrTag, "24": api.ErrTag, "99": api.ErrTag, "245": api.OK, "2450": api.ErrTag, "0245": api.ErrTag,
		"000": api.ErrTag, "001": api.ErrTag, "009": api.ErrTag, "010": api.OK, "011": api.OK, "099": api.OK, "100": api.OK, "998": api.OK, "999": api.OK, "1000": api.ErrTag,
		"24a": api.ErrTag, "a45": api.ErrTag, "2x5": api.ErrTag, "+45": api.ErrTag, "-45": api.ErrTag, "24-": api.ErrTag, "2.5": api.ErrTag, "2_5": api.ErrTag,
		"0x1": api.ErrTag, "1e1": api.ErrTag, " 45": api.ErrTag, "24 ": api.ErrTag, "245 ": api.ErrTag, " 245": api.ErrTag, "245\n": api.ErrTag,
		"24\u0665": api.ErrTag, "2\u0664": api.ErrTag, "\uff12": api.ErrTag, "\uff12\uff14\uff15": api.ErrTag, "\xff45": api.ErrTag,
		strings.Repeat("9", 1000): api.ErrTag,
	} {
		wantKey(t, key(tag, 'a', 0, 1), want)
	}
	for i := range 3 {
		for c := range 256 {
			tag := []byte("245")
			tag[i] = byte(c)
			wantRight(t, rule(1, key(string(tag), 'a', 0, 1)), errorIf(c < '0' || c > '9', api.ErrTag))
		}
	}
}

// P15.1: every byte as a Code.
func TestRightCode(t *testing.T) {
	codes := 0
	for c := range 256 {
		want := errorIf(!(c >= 'a' && c <= 'z') && !(c >= '0' && c <= '9'), api.ErrArg)
		wantKey(t, key("245", byte(c), 0, 1), want)
		if want == api.OK {
			codes++
		}
	}
	if codes != 36 {
		t.Errorf("there are %d codes, want 36", codes)
	}
}

// numbers returns numbers near the given ones, and far from all.
func numbers(near ...int) []int {
	list := []int{math.MinInt, math.MinInt32, -256, -100, 1 << 8, 1 << 16, 1 << 32, 1<<32 + 1, 1<<32 + 100, math.MaxInt32, math.MaxInt}
	for _, n := range near {
		list = append(list, n-2, n-1, n, n+1, n+2)
	}
	return list
}

// P15.1: the limits of Norm, Weight and Need.
func TestRightRange(t *testing.T) {
	for _, n := range numbers(0, 4) {
		wantKey(t, key("245", 'a', n, 1), errorIf(n < 0 || n > 4, api.ErrRange))
		wantKey(t, key("245", 'a', n, 100), errorIf(n < 0 || n > 4, api.ErrRange))
	}
	for _, n := range append(numbers(1, 50, 100), 800) {
		for norm := range 5 {
			wantKey(t, key("245", 'a', norm, n), errorIf(n < 1 || n > 100, api.ErrRange))
		}
	}
	for _, n := range append(numbers(1, 100, 800), 8, 400) {
		wantRight(t, rule(n, key("245", 'a', 0, 1)), errorIf(n < 1 || n > 800, api.ErrRange))
		wantRight(t, rule(n, keyList(8)...), errorIf(n < 1 || n > 800, api.ErrRange))
	}
	// Need can be more than all Weights together.
	wantRight(t, rule(800, key("245", 'a', 0, 1)), api.OK)
}

// faulty returns a key with a choice of faults: in the Tag, the Code, the Norm, and the Weight.
func faulty(choice int) api.MatchKey {
	k := key("245", 'a', 1, 50)
	if choice&1 > 0 {
		k.Tag = "24"
	}
	if choice&2 > 0 {
		k.Code = '$'
	}
	if choice&4 > 0 {
		k.Norm = 5
	}
	if choice&8 > 0 {
		k.Weight = 101
	}
	return k
}

// P15.1: the first fault in the chapter's order is the answer, with every choice of faults in up to three keys, and in Need.
func TestRightOrder(t *testing.T) {
	first := func(choices []int, need int) api.Errno {
		for _, choice := range choices {
			for i, err := range []api.Errno{api.ErrTag, api.ErrArg, api.ErrRange, api.ErrRange} {
				if choice>>i&1 > 0 {
					return err
				}
			}
		}
		return errorIf(need > 800, api.ErrRange)
	}
	all := make([]int, 16)
	for i := range all {
		all[i] = i
	}
	eachSequence(all, 3, func(choices []int) {
		var l []api.MatchKey
		for _, choice := range choices {
			l = append(l, faulty(choice))
		}
		for _, need := range []int{100, 801} {
			if len(l) > 0 {
				wantRight(t, rule(need, l...), first(choices, need))
			}
		}
	})
}

// P15.1: faults at two places of eight keys, the first key and the last one among them.
func TestRightPlaces(t *testing.T) {
	for k, err := range wrongKeys() {
		for later, laterErr := range wrongKeys() {
			for i := range 8 {
				for j := i + 1; j < 8; j++ {
					l := keyList(8)
					l[j] = later
					if got := Right(rule(0, l...)); got != laterErr {
						t.Errorf("Right is %d, want %d for %s", int(got), int(laterErr), short(l))
					}
					l[i] = k
					if got := Right(rule(100, l...)); got != err {
						t.Errorf("Right is %d, want %d for %s", int(got), int(err), short(l))
					}
				}
			}
		}
	}
}

// document is the list of the keys of the standard rule, as the document has it.
const document = "020 a 2 100; 022 a 0 100; 245 a 1 50; 100 a 1 30; 264 c 4 20; 260 c 4 20"

// P15.2: Standard, key by key, and that it is valid.
func TestStandard(t *testing.T) {
	m := pure(t, input{}, func(input) api.MatchRule { return Standard() })
	keys := strings.Split(document, "; ")
	if len(m.Keys) != 6 || len(keys) != 6 || m.Need != 100 {
		t.Fatalf("Standard is %s", short(m))
	}
	for i, k := range m.Keys {
		if got := fmt.Sprintf("%s %c %d %d", k.Tag, k.Code, k.Norm, k.Weight); got != keys[i] {
			t.Errorf("key %d of Standard is %s, want %s", i, got, keys[i])
		}
	}
	wantRight(t, m, api.OK)
	wantRight(t, Standard(), api.OK)
	m.Keys[2].Tag, m.Keys = "999", append(m.Keys, key("999", 'z', 4, 1))
	if again := Standard(); len(again.Keys) != 6 || again.Keys[2] != key("245", 'a', 1, 50) {
		t.Errorf("Standard becomes %s", short(again))
	}
}
