package control

import (
	"slices"
	"testing"

	"library/api"
)

// P14.5: no, one and several loose fields.
func TestLoose(t *testing.T) {
	wantLoose(t, api.Record{})
	wantLoose(t, rec(1))
	for _, tag := range kinded {
		wantLoose(t, rec(1, fd(tag, "aDogs")), 0)
		wantLoose(t, rec(1, fd(tag)), 0)
		for _, id := range []int{-1 << 63, -1, 1, 7, 9999, 10000, 1<<63 - 1} {
			wantLoose(t, rec(1, to(id, fd(tag, "aDogs"))))
			wantLoose(t, rec(1, fd(tag, "aDogs"), to(id, fd(tag, "aDogs")), fd(tag, "aDogs")), 0, 2)
			wantLoose(t, rec(1, to(id, fd(tag)), fd(tag, "aDogs"), to(id, fd(tag, "aDogs"))), 1)
		}
	}
	for _, tag := range kindless {
		wantLoose(t, rec(1, fd(tag, "aDogs")))
		wantLoose(t, rec(1, fd(tag), to(7, fd(tag)), fd("650"), to(3, fd(tag)), fd(tag), fd("100")), 2, 5)
	}
	var fields []api.Field
	var all []int
	for i := range api.MaxFields {
		fields = append(fields, fd(kinded[i%len(kinded)], "ax"))
		all = append(all, i)
		wantLoose(t, rec(0, fields...), all...)
	}
}

// P14.5: each choice of fields with an Auth and without, with a kind and of the kind 0.
func TestLooseSequences(t *testing.T) {
	choice := []api.Field{fd("650", "aDogs"), to(7, fd("650", "aDogs")), fd("245", "aDogs"), to(7, fd("245", "aDogs")), fd("100")}
	eachSequence(choice, 5, func(l []api.Field) {
		r := rec(1, l...)
		if got, want := Loose(r), looseOf(r); !slices.Equal(got, want) {
			t.Errorf("Loose of %s is %v, want %v", short(r), got, want)
		}
	})
}

// P14.5: no records, and records that use the ID in no, one and several fields.
func TestUses(t *testing.T) {
	for _, id := range []int{-1, 0, 1, 7} {
		wantUses(t, nil, id)
		wantUses(t, []api.Record{}, id)
		wantUses(t, []api.Record{{}}, id)
		wantUses(t, []api.Record{rec(1), rec(2)}, id)
	}
	l := []api.Record{
		rec(9, to(7, fd("650", "aDogs")), fd("650", "aCats"), to(7, fd("650", "ahounds"))),
		rec(4, fd("245", "aDogs"), to(1, fd("100", "aSmith"))),
		rec(2, fd("245", "aDogs"), to(3, fd("100", "aSmith")), to(7, fd("651", "aDogs"))),
		rec(3, fd("245", "aDogs")),
		rec(1, to(-1, fd("245", "aDogs")), to(7, fd("245", "aDogs"))),
		rec(8, to(7, fd("", "x"))),
		rec(6),
	}
	wantUses(t, l, 7, 1, 2, 8, 9)
	wantUses(t, l, 3, 2)
	wantUses(t, l, 1, 4)
	wantUses(t, l, 2)
	wantUses(t, l, 10000)
	// Fields without a link use nothing.
	wantUses(t, l, 0)
	wantUses(t, l, -1)
	wantUses(t, l, -7)
	wantUses(t, l, -1<<63)
}

// P14.5: IDs in every order, equal ones, and those that no valid record has.
func TestUsesOrder(t *testing.T) {
	user := func(id int) api.Record { return rec(id, fd("245", "aDogs"), to(1, fd("650", "aDogs"))) }
	wantUses(t, []api.Record{user(3), user(2), user(1)}, 1, 1, 2, 3)
	wantUses(t, []api.Record{user(2), user(2)}, 1, 2)
	wantUses(t, []api.Record{user(2), user(1), user(2), user(1), user(3)}, 1, 1, 2, 3)
	wantUses(t, []api.Record{rec(2), user(2), rec(2)}, 1, 2)
	wantUses(t, []api.Record{user(0), user(0), rec(1)}, 1, 0)
	wantUses(t, []api.Record{user(10000), user(-1), user(1<<63 - 1), user(-1 << 63), user(0)}, 1, -1<<63, -1, 0, 10000, 1<<63-1)
	var down []api.Record
	var up []int
	for i := range 200 {
		down = append(down, user(200-i))
		up = append(up, i+1)
	}
	wantUses(t, down, 1, up...)
	wantUses(t, slices.Concat(down, down), 1, up...)
	for _, id := range []int{2, 9999, 10000, 1<<63 - 1} {
		wantUses(t, append(down, rec(300, to(id, fd("100", "ax")))), id, 300)
	}
}

// turning returns records in which fields with and without a kind have several Auths.
func turning() []api.Record {
	return []api.Record{
		rec(9, to(7, fd("650", "aDogs")), fd("650", "aCats"), to(7, fd("650", "ahounds", "xx")), to(3, fd("100", "aSmith"))),
		rec(2, to(7, fd("245", "aDogs")), to(3, fd("700", "aSmith")), to(-1, fd("440", "aDogs"))),
		{},
		rec(2, fd("245", "aDogs"), to(-1, fd("999"))),
		{ID: 4, Version: 1, Kind: 9, Lang: "x", Fields: []api.Field{{Auth: 7}, {Auth: 3}, {}, {Auth: 7}}},
	}
}

// P14.6: from an ID to another one, to itself, to 0 and to what is no ID.
func TestTurn(t *testing.T) {
	wantTurn(t, nil, 7, 3, nil)
	wantTurn(t, []api.Record{}, 7, 3, nil)
	wantTurn(t, []api.Record{rec(1), {}}, 7, 3, []api.Record{rec(1), {}})
	wantTurn(t, turning(), 7, 3, []api.Record{
		rec(9, to(3, fd("650", "aDogs")), fd("650", "aCats"), to(3, fd("650", "ahounds", "xx")), to(3, fd("100", "aSmith"))),
		rec(2, to(3, fd("245", "aDogs")), to(3, fd("700", "aSmith")), to(-1, fd("440", "aDogs"))),
		{},
		rec(2, fd("245", "aDogs"), to(-1, fd("999"))),
		{ID: 4, Version: 1, Kind: 9, Lang: "x", Fields: []api.Field{{Auth: 3}, {Auth: 3}, {}, {Auth: 3}}},
	})
	wantTurn(t, turning()[:2], 3, 0, []api.Record{
		rec(9, to(7, fd("650", "aDogs")), fd("650", "aCats"), to(7, fd("650", "ahounds", "xx")), fd("100", "aSmith")),
		rec(2, to(7, fd("245", "aDogs")), fd("700", "aSmith"), to(-1, fd("440", "aDogs"))),
	})
	numbers := []int{-1 << 63, -7, -1, 0, 1, 2, 3, 7, 9999, 10000, 1<<63 - 1}
	for _, from := range numbers {
		for _, into := range numbers {
			wantTurn(t, turning(), from, into, turnOf(turning(), from, into))
		}
		wantTurn(t, turning(), from, from, turning())
	}
}

// P14.6: nothing changes for an ID below 1 or one that no field has.
func TestTurnNothing(t *testing.T) {
	for _, from := range []int{-1 << 63, -7, -3, -1, 0, 1, 2, 4, 9999} {
		for _, into := range []int{-1, 0, 1, 3, 7, 9999} {
			wantTurn(t, turning(), from, into, turning())
		}
	}
	least := []api.Record{rec(1, to(1, fd("650", "aDogs")), to(0, fd("650", "aDogs")), to(-1, fd("650", "aDogs")))}
	wantTurn(t, least, 1, 9, []api.Record{rec(1, to(9, fd("650", "aDogs")), to(0, fd("650", "aDogs")), to(-1, fd("650", "aDogs")))})
	wantTurn(t, least, 0, 9, least)
	wantTurn(t, least, -1, 9, least)
	far := []api.Record{rec(1, to(1<<63-1, fd("650")), to(10000, fd("650")))}
	wantTurn(t, far, 1<<63-1, 10000, []api.Record{rec(1, to(10000, fd("650")), to(10000, fd("650")))})
	wantTurn(t, far, 10000, -1<<63, []api.Record{rec(1, to(1<<63-1, fd("650")), to(-1<<63, fd("650")))})
}

// wantTurning checks what P14.9 says of Turn from one ID to another one.
func wantTurning(t *testing.T, l []api.Record, from, into int) {
	t.Helper()
	turned := Turn(l, from, into)
	if users := Uses(turned, from); len(users) > 0 {
		t.Errorf("after Turn of %s from %d to %d the records %v use the first one", short(l), from, into, users)
	}
	both := slices.Concat(Uses(l, from), Uses(l, into))
	slices.Sort(both)
	if users := Uses(turned, into); !slices.Equal(users, slices.Compact(both)) {
		t.Errorf("after Turn of %s from %d to %d the records %v use the second one, want %v", short(l), from, into, users, both)
	}
}

// P14.5, P14.6, P14.9: all pairs of records with up to two fields.
func TestTurning(t *testing.T) {
	choice := []api.Field{fd("650", "aDogs"), to(1, fd("650", "aDogs")), to(2, fd("245", "aDogs")), to(3, fd("100"))}
	var records []api.Record
	eachSequence(choice, 2, func(l []api.Field) { records = append(records, rec(len(records)%4, l...)) })
	for _, a := range records {
		for _, b := range records {
			l := []api.Record{a, b}
			for id := -1; id < 4; id++ {
				wantUses(t, l, id, usesOf(l, id)...)
			}
			for from := 1; from < 4; from++ {
				for into := 1; into < 4; into++ {
					if from != into {
						wantTurning(t, l, from, into)
					}
					if got, want := Turn(l, from, into), turnOf(l, from, into); !equal(got, want) {
						t.Errorf("Turn of %s from %d to %d is %s, want %s", short(l), from, into, short(got), short(want))
					}
				}
			}
		}
	}
}
