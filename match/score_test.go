package match

import (
	"slices"
	"testing"

	"library/api"
)

// P15.4: no, one and several keys in common.
func TestScore(t *testing.T) {
	m := rule(100, key("020", 'a', 2, 100), key("245", 'a', 1, 50), key("100", 'a', 1, 7))
	book := rec(1, fd("020", "a0306406152"), fd("245", "aDogs"), fd("100", "aLee"))
	wantScore(t, m, book, book, 157)
	wantScore(t, m, book, rec(2), 0)
	wantScore(t, m, rec(1), rec(2), 0)
	wantScore(t, m, rec(1), rec(1), 0)
	wantScore(t, m, book, rec(2, fd("020", "a9780306406157")), 100)
	wantScore(t, m, book, rec(2, fd("245", "aDOGS!")), 50)
	wantScore(t, m, book, rec(2, fd("100", "alee")), 7)
	wantScore(t, m, book, rec(2, fd("100", "alee"), fd("245", "adogs")), 57)
	wantScore(t, m, book, rec(2, fd("100", "alee"), fd("020", "a0-306-40615-2")), 107)
	wantScore(t, m, book, rec(2, fd("245", "aCats"), fd("100", "aSmith"), fd("020", "a080442957X")), 0)
	wantScore(t, m, book, rec(2, fd("245", "bDogs"), fd("100", "aDogs"), fd("110", "aLee"), fd("020", "z0306406152")), 0)
	// The weights count, whatever Need is, and however much they are.
	for _, need := range []int{1, 157, 158, 800} {
		wantScore(t, rule(need, m.Keys...), book, book, 157)
	}
	full := slices.Repeat([]api.MatchKey{key("245", 'a', 0, 100)}, 8)
	wantScore(t, rule(800, full...), book, book, 800)
	wantScore(t, rule(1, key("245", 'a', 0, 1)), book, book, 1)
}

// P15.4: what two records do not have in common.
func TestScoreNothing(t *testing.T) {
	// Values without a key are no common ones, even if they are equal.
	for norm, value := range map[int]string{1: "a!!!", 2: "a0306406153", 3: "a---", 4: "a12345"} {
		r := rec(1, fd("245", value))
		wantScore(t, rule(1, key("245", 'a', norm, 50)), r, r, 0)
		wantScore(t, rule(1, key("245", 'a', 0, 50)), r, r, 50)
	}
	// A key of one match key is nothing to another one.
	m := Standard()
	wantScore(t, m, rec(1, fd("264", "c1998")), rec(2, fd("260", "c1998")), 0)
	wantScore(t, m, rec(1, fd("264", "c1998"), fd("260", "c1999")), rec(2, fd("260", "c1998"), fd("264", "c1999")), 0)
	wantScore(t, m, rec(1, fd("245", "aLee")), rec(2, fd("100", "aLee")), 0)
	wantScore(t, rule(1, key("245", 'a', 0, 1), key("245", 'b', 0, 2)), rec(1, fd("245", "ax", "by")), rec(2, fd("245", "ay", "bx")), 0)
	wantScore(t, rule(1, key("245", 'a', 1, 1), key("245", 'a', 3, 2)), rec(1, fd("245", "adogma")), rec(2, fd("245", "adogm")), 2)
	// Values are compared whole.
	wantScore(t, rule(1, key("245", 'a', 0, 1)), rec(1, fd("245", "aDogs")), rec(2, fd("245", "aDog", "aDogs ", "adogs", "as")), 0)
}

// P15.4: the standard rule, key by key.
func TestScoreStandard(t *testing.T) {
	a := rec(1, fd("020", "a080442957X"), fd("022", "a0378-5955"), fd("100", "aLee, Bo"), fd("245", "aDogs"), fd("260", "c1998"), fd("264", "c1999"))
	b := rec(2, fd("020", "a978-0-8044-2957-3"), fd("022", "a0378-5955"), fd("100", "aLEE BO"), fd("245", "aDogs."), fd("260", "c[1998]"), fd("264", "c(c1999)"))
	weights := []int{100, 100, 30, 50, 20, 20}
	for choice := range 1 << 6 {
		sum, some := 0, rec(2)
		for i, f := range b.Fields {
			if choice>>i&1 > 0 {
				some.Fields = append(some.Fields, f)
				sum += weights[i]
			}
		}
		wantScore(t, Standard(), a, some, sum)
	}
	// The norm of 022 is 0: the hyphen counts.
	wantScore(t, Standard(), a, rec(2, fd("022", "a03785955")), 0)
}

// P15.4: several values in common for one key count its Weight once; any one is enough.
func TestScoreOnce(t *testing.T) {
	values := []string{"aa", "ab", "ac", "ad", "ae", "af"}
	m := rule(1, key("650", 'a', 0, 42))
	for left := range 1 << 6 {
		for right := range 1 << 6 {
			a, b := rec(1), rec(2, fd("245", "aa"))
			for i, value := range values {
				if left>>i&1 > 0 {
					a.Fields = append(a.Fields, fd("650", value))
				}
				if right>>i&1 > 0 {
					b.Fields = append(b.Fields, fd("650", value, value))
				}
			}
			want := 0
			if left&right > 0 {
				want = 42
			}
			if got := Score(m, a, b); got != want {
				t.Errorf("Score is %d, want %d for %06b and %06b", got, want, left, right)
			}
		}
	}
	a, b := rec(1, fd("650", values...)), rec(2, fd("650", "af", "ae", "x1", "ab"), fd("650", "ab", "ac"))
	wantScore(t, m, a, b, 42)
	wantScore(t, m, a, a, 42)
}

// P15.4: several keys that look at the same subfields count each.
func TestScoreSame(t *testing.T) {
	m := rule(1, key("245", 'a', 0, 1), key("245", 'a', 1, 2), key("245", 'a', 3, 4), key("245", 'a', 1, 8), key("245", 'a', 1, 8), key("245", 'a', 4, 16), key("245", 'b', 0, 32))
	dogs := rec(1, fd("245", "aDogma 1998"))
	for value, want := range map[string]int{
		"aDogma 1998": 1 + 2 + 4 + 8 + 8 + 16, "adogma, 1998": 2 + 4 + 8 + 8 + 16, "aDogma 1999": 4, "aDogmatic": 4, "aDog": 0, "aCats (1998)": 16, "aCats": 0, "bDogma 1998": 0,
	} {
		wantScore(t, m, dogs, rec(2, fd("245", value)), want)
	}
	wantScore(t, m, dogs, rec(2, fd("245", "aCats"), fd("245", "aDogs", "ain 1998")), 16)
	wantScore(t, m, dogs, rec(2, fd("245", "aDogmas"), fd("245", "ain 1998")), 20)
}

// P15.4: every choice of common keys of a rule with eight of them.
func TestScoreSum(t *testing.T) {
	weights := []int{1, 2, 4, 8, 16, 32, 64, 100}
	var keys []api.MatchKey
	for i, weight := range weights {
		keys = append(keys, key([]string{"100", "245", "650", "700"}[i/2], "ab"[i%2], 1, weight))
	}
	for choice := range 1 << 8 {
		a, b, want := rec(1), rec(2), 0
		for i, k := range keys {
			ours, theirs := "Ours", "Theirs"
			if choice>>i&1 > 0 {
				ours, theirs, want = "Common", "common!", want+weights[i]
			}
			a.Fields = append(a.Fields, fd(k.Tag, string(k.Code)+ours))
			b.Fields = append(b.Fields, fd(k.Tag, string(k.Code)+theirs))
		}
		slices.Reverse(b.Fields)
		wantScore(t, rule(800, keys...), a, b, want)
	}
}

// P15.4: nothing but fields counts.
func TestScoreOther(t *testing.T) {
	a, b := rec(1, fd("245", "aDogs")), rec(9999, fd("245", "aDogs"))
	b.Version, b.Kind, b.Lang = 1, api.KdMap, "deu"
	b.Fields[0].Ind, b.Fields[0].Auth = "00", 77
	wantScore(t, Standard(), a, b, 50)
	b.ID = 1
	wantScore(t, Standard(), a, b, 50)
}
