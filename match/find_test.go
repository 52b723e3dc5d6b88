package match

import (
	"slices"
	"testing"

	"library/api"
)

// byTitle is a rule for which records with the same title have the Score 50, with the same author 30, and with the same year 20.
func byTitle(need int) api.MatchRule {
	return rule(need, key("245", 'a', 1, 50), key("100", 'a', 1, 30), key("264", 'c', 4, 20))
}

// book returns a record with a title, an author and a year; "" stands for none.
func book(id int, title, author, year string) api.Record {
	r := rec(id)
	for i, value := range []string{title, author, year} {
		if value != "" {
			r.Fields = append(r.Fields, fd([]string{"245", "100", "264"}[i], "aac"[i:i+1]+value))
		}
	}
	return r
}

// P15.5: no records, none and several that match, the best first.
func TestFind(t *testing.T) {
	r := book(5, "Dogs", "Lee", "1998")
	wantFind(t, byTitle(50), nil, r)
	wantFind(t, byTitle(50), []api.Record{}, r)
	wantFind(t, byTitle(50), []api.Record{rec(1)}, r)
	wantFind(t, byTitle(50), []api.Record{book(1, "Cats", "Lee", "1999")}, r)
	wantFind(t, byTitle(50), []api.Record{book(1, "Dogs", "Smith", "1999")}, r, 1)
	wantFind(t, byTitle(50), []api.Record{book(1, "Cats", "Lee", "1998")}, r, 1)
	l := []api.Record{
		book(1, "Dogs", "Smith", "1999"), // 50
		book(2, "Cats", "Smith", "1998"), // 20
		book(3, "Dogs", "Lee", "1999"),   // 80
		book(4, "Cats", "Lee", "1998"),   // 50
		book(6, "Dogs", "Lee", "1998"),   // 100
		book(7, "Dogs", "Smith", "1998"), // 70
		book(8, "Cats", "Lee", "1999"),   // 30
		book(9, "Cats", "Smith", "1999"), // 0
	}
	wantValid(t, byTitle(50), append(l, r)...)
	for need, want := range map[int][]int{
		1: {6, 3, 7, 1, 4, 8, 2}, 20: {6, 3, 7, 1, 4, 8, 2}, 21: {6, 3, 7, 1, 4, 8}, 30: {6, 3, 7, 1, 4, 8}, 31: {6, 3, 7, 1, 4}, 50: {6, 3, 7, 1, 4}, 51: {6, 3, 7},
		70: {6, 3, 7}, 71: {6, 3}, 80: {6, 3}, 81: {6}, 100: {6}, 101: nil, 800: nil,
	} {
		wantFind(t, byTitle(need), l, r, want...)
		wantFind(t, byTitle(need), append(l, r), r, want...)
		wantFind(t, byTitle(need), append([]api.Record{r}, l...), r, want...)
	}
}

// P15.5: a Score just below Need, equal to it, and above it.
func TestFindNeed(t *testing.T) {
	r := book(1, "Dogs", "Lee", "1998")
	for _, c := range []struct {
		other api.Record
		score int
	}{
		{book(2, "Dogs", "Lee", "1998"), 100}, {book(2, "Dogs", "Lee", ""), 80}, {book(2, "Dogs", "", "1998"), 70}, {book(2, "Dogs", "", ""), 50},
		{book(2, "", "Lee", "1998"), 50}, {book(2, "", "Lee", ""), 30}, {book(2, "", "", "1998"), 20}, {book(2, "", "", ""), 0},
	} {
		wantScore(t, byTitle(1), r, c.other, c.score)
		for need := 1; need <= 800; need++ {
			m, l := byTitle(need), []api.Record{c.other}
			found, pairs := Find(m, l, r), Pairs(m, append(l, r))
			if c.score >= need && (!slices.Equal(found, []int{2}) || !slices.Equal(pairs, [][2]int{{1, 2}})) || c.score < need && len(found)+len(pairs) > 0 {
				t.Errorf("Find is %v, Pairs %v for the Score %d and the Need %d", found, pairs, c.score, need)
			}
		}
	}
	// The greatest Score is the greatest Need.
	full := slices.Repeat([]api.MatchKey{key("245", 'a', 0, 100)}, 8)
	wantFind(t, rule(800, full...), []api.Record{rec(2, fd("245", "aDogs"))}, rec(1, fd("245", "aDogs")), 2)
	wantPairs(t, rule(800, full...), []api.Record{rec(2, fd("245", "aDogs")), rec(1, fd("245", "aDogs"))}, [2]int{1, 2})
}

// P15.5: equal Scores come ascending by ID, in whatever order the records stand.
func TestFindEqual(t *testing.T) {
	r := book(50, "Dogs", "Lee", "1998")
	var l []api.Record
	for id := 99; id >= 0; id-- {
		title := "Dogs"
		if id%3 == 0 {
			title = "Cats"
		}
		l = append(l, book(id, title, "Lee", ""))
	}
	var want []int
	for _, title := range []bool{true, false} {
		for id := range 100 {
			if (id%3 != 0) == title && id != 50 {
				want = append(want, id)
			}
		}
	}
	wantFind(t, byTitle(30), l, r, want...)
	slices.Reverse(l)
	wantFind(t, byTitle(30), l, r, want...)
	wantFind(t, byTitle(80), l, r, want[:66-1]...)
	few := []api.Record{book(9999, "Dogs", "", ""), book(7, "Dogs", "Lee", ""), book(1000, "Dogs", "", ""), book(999, "Dogs", "", ""), book(8, "Dogs", "Lee", "")}
	eachOrder(few, func(l []api.Record) { wantFind(t, byTitle(50), l, r, 7, 8, 999, 1000, 9999) })
}

// P15.5: another ID than that of r, whatever else is equal or differs; IDs of r that no record has, and 0.
func TestFindSelf(t *testing.T) {
	same := func(id int) api.Record { return book(id, "Dogs", "Lee", "1998") }
	l := []api.Record{same(3), same(9999), same(0), same(1)}
	wantFind(t, byTitle(50), l, same(0), 1, 3, 9999)
	wantFind(t, byTitle(50), l, same(1), 0, 3, 9999)
	wantFind(t, byTitle(50), l, same(3), 0, 1, 9999)
	wantFind(t, byTitle(50), l, same(9999), 0, 1, 3)
	for _, id := range []int{2, 4, 9998, -1, 10000, 1 << 32, 1<<32 + 1, -1 << 63, 1<<63 - 1} {
		wantFind(t, byTitle(50), l, same(id), 0, 1, 3, 9999)
	}
	// The record with the ID of r is another edition of it.
	wantFind(t, byTitle(50), l, book(3, "Dogs", "", ""), 0, 1, 9999)
	wantFind(t, byTitle(50), []api.Record{same(3), book(4, "Cats", "Lee", "")}, book(3, "Cats", "Lee", ""), 4)
	wantFind(t, byTitle(50), []api.Record{same(3)}, same(3))
	wantFind(t, byTitle(50), []api.Record{same(0)}, same(0))
	wantFind(t, byTitle(50), []api.Record{same(1), same(2)}, same(0), 1, 2)
	// Without keys nothing matches, not even a record like it.
	wantFind(t, byTitle(1), []api.Record{rec(1), rec(2)}, rec(3))
}

// P15.6: no, one, two and several records.
func TestPairs(t *testing.T) {
	same := func(id int) api.Record { return book(id, "Dogs", "Lee", "1998") }
	other := book(3, "Cats", "Smith", "1999")
	wantPairs(t, byTitle(50), nil)
	wantPairs(t, byTitle(50), []api.Record{})
	wantPairs(t, byTitle(50), []api.Record{same(1)})
	wantPairs(t, byTitle(50), []api.Record{same(1), same(2)}, [2]int{1, 2})
	wantPairs(t, byTitle(50), []api.Record{same(2), same(1)}, [2]int{1, 2})
	wantPairs(t, byTitle(50), []api.Record{same(9999), same(0)}, [2]int{0, 9999})
	wantPairs(t, byTitle(50), []api.Record{same(10), same(9)}, [2]int{9, 10})
	wantPairs(t, byTitle(50), []api.Record{same(1), other})
	wantPairs(t, byTitle(50), []api.Record{same(1), other, same(2)}, [2]int{1, 2})
	wantPairs(t, byTitle(50), []api.Record{same(4), other, same(2)}, [2]int{2, 4})
	wantPairs(t, byTitle(1), []api.Record{rec(1), rec(2), rec(3)})
}

// P15.6: three records that all match one another, and three of which two do not, in all orders.
func TestPairsOfThree(t *testing.T) {
	all := []api.Record{book(7, "Dogs", "Lee", ""), book(12, "Dogs", "Lee", ""), book(3, "Dogs", "Lee", "")}
	eachOrder(all, func(l []api.Record) {
		wantPairs(t, byTitle(50), l, [2]int{3, 7}, [2]int{3, 12}, [2]int{7, 12})
	})
	chain := []api.Record{book(7, "Dogs", "Lee", "1998"), book(12, "Dogs", "Smith", ""), book(3, "Cats", "Lee", "1998")}
	eachOrder(chain, func(l []api.Record) {
		wantPairs(t, byTitle(50), l, [2]int{3, 7}, [2]int{7, 12})
	})
}

// P15.6: pairs ascend by the first, then by the second ID, in whatever order the records stand.
func TestPairsOrder(t *testing.T) {
	l := []api.Record{book(100, "Dogs", "", ""), book(20, "Cats", "", ""), book(9, "Dogs", "", ""), book(0, "Cats", "", ""), book(9999, "Dogs", "", ""), book(8, "Dogs", "", "")}
	want := [][2]int{{0, 20}, {8, 9}, {8, 100}, {8, 9999}, {9, 100}, {9, 9999}, {100, 9999}}
	eachOrder(l, func(l []api.Record) { wantPairs(t, byTitle(50), l, want...) })
	var many []api.Record
	want = nil
	for id := 64; id > 0; id-- {
		many = append(many, book(id*150, "Dogs", "Lee", "1998"))
	}
	for a := 1; a <= 64; a++ {
		for b := a + 1; b <= 64; b++ {
			want = append(want, [2]int{a * 150, b * 150})
		}
	}
	wantPairs(t, byTitle(100), many, want...)
	slices.Reverse(many)
	wantPairs(t, byTitle(100), many, want...)
	wantPairs(t, byTitle(101), many)
}
