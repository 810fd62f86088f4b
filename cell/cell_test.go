package cell_test

import (
	"slices"
	"testing"

	"backwash/api"
	"backwash/cell"
)

func TestP15_1_Right(t *testing.T) {
	for _, all := range rightCells() {
		if !cell.Right(all) {
			t.Errorf("Right(%s) = false", brief(all))
		}
		tells(t, all)
	}
}

func TestP15_1_WrongCells(t *testing.T) {
	for i, all := range wrongCells() {
		if cell.Right(all) {
			t.Errorf("Right(%s) = true, of wrong cells %d", brief(all), i)
		}
		tells(t, all)
	}
}

// Each row of up to four slots, in any order.
func TestP15_1_RightOfAllShortRows(t *testing.T) {
	few := c(one(at(0)), stale(at(1), saw1(n(1, 1, 1))), again(at(1, 0), saw(n(-1, 1, 1)), n(1, 2, 2)), one(at(1, 2)), made(at(2), saw(), n(1, 1, 1)), stale(at(3), saw()), one(at(-1)), stale(at(4), saw(n(0, 1, 1))))
	right := 0
	var grow func(all []api.Slot)
	grow = func(all []api.Slot) {
		tells(t, all)
		if cell.Right(all) {
			right++
		}
		if len(all) < 4 {
			for _, s := range few {
				grow(append(slices.Clone(all), s))
			}
		}
	}
	grow(nil)
	if right != 1+5+10+10+5 {
		t.Errorf("%d rows are right", right)
	}
}

// Whether a slot is stale, and whether it was made, is nothing to its being right.
func TestP15_1_RightWhateverWasDone(t *testing.T) {
	for i := range 4 {
		for _, s := range c(stale(at(1), saw(n(1, 1, 1))), stale(at(1), saw1(n(1, 1, 1))), stale(at(1), saw(), n(1, 1, 1)), stale(at(1), saw())) {
			s.Dirty, s.Fired = i&1 > 0, i&2 > 0
			tells(t, c(s))
			tells(t, c(one(at(0)), s, one(at(2))))
		}
	}
}

func TestP15_1_Come(t *testing.T) {
	for _, kind := range kinds() {
		all, late, ok := comes(t, nil, kind, 0, at(2), r(1, 5), 2)
		if want := c(stale(at(2), saw(n(2, 1, 5)))); !same(all, want) || late || !ok {
			t.Fatalf("%s, %t, %t", brief(all), late, ok)
		}
		// A slot ahead, one between, one behind, of as many coordinates and of more.
		all, _, _ = comes(t, all, kind, 1, at(0), r(2, 7), -1)
		all, _, _ = comes(t, all, kind, 0, at(1), r(3, 8), often)
		all, _, _ = comes(t, all, kind, 0, at(3), r(3, 9), -often)
		all, _, _ = comes(t, all, kind, 1, at(2, 0), r(3, 9), 1)
		// To slots that are there: another record, the same one, to the other port.
		all, _, _ = comes(t, all, kind, 0, at(2), r(1, 4), 1)
		all, _, _ = comes(t, all, kind, 0, at(2), r(1, 5), -3)
		all, _, _ = comes(t, all, kind, 1, at(2), r(1, 5), 1)
		want := c(stale(at(0), saw1(n(-1, 2, 7))), stale(at(1), saw(n(often, 3, 8))), stale(at(2), both(l(n(1, 1, 4), n(-1, 1, 5)), l(n(1, 1, 5)))), stale(at(2, 0), saw1(n(1, 3, 9))), stale(at(3), saw(n(-often, 3, 9))))
		if !same(all, want) {
			t.Fatalf("%d: %s, not %s", kind, brief(all), brief(want))
		}
	}
}

// The numbers that come may be at their ends, and not beyond.
func TestP15_1_WhatMayCome(t *testing.T) {
	for _, all := range rightCells() {
		for _, kind := range kinds() {
			for _, port := range []int{0, 1} {
				for _, many := range []int{1, -1, 2, often, -often, often - 1} {
					for _, u := range times(at(0), at(1), at(1<<20), at(0, 0), at(1<<20, 64), at(1, 64, 64), at(1<<20, 64, 64, 64)) {
						if _, _, ok := comes(t, all, kind, port, u, r(1, 1), many); !ok {
							t.Fatalf("(1 1) doesn't come %d times to the port %d at %v", many, port, u)
						}
					}
				}
			}
		}
	}
}

func TestP15_1_WhatMayNotCome(t *testing.T) {
	refused := func(all []api.Slot, kind, port int, u api.Time, many int) {
		t.Helper()
		got, late, ok := comes(t, all, kind, port, u, r(1, 1), many)
		if late || ok || !same(got, all) {
			t.Fatalf("Come(%s, %d, %d, %v, (1 1), %d) = %s, %t, %t", brief(all), kind, port, u, many, brief(got), late, ok)
		}
	}
	for _, all := range rightCells() {
		for _, kind := range []int{api.KSum, api.KTotal, api.KJoin, 0} {
			for _, port := range []int{-1, 2, 3, -1 << 63, 1<<63 - 1} {
				refused(all, kind, port, at(1), 1)
			}
			for _, u := range wrongTimes() {
				refused(all, kind, 0, u, 1)
				refused(all, kind, 1, u, 1)
			}
			for _, many := range []int{0, often + 1, -often - 1, 1<<63 - 1, -1 << 63, 1 << 32, -1 << 32} {
				refused(all, kind, 0, at(1), many)
				refused(all, kind, 1, at(9), many)
			}
		}
	}
}

// A record that would be there too often, or too seldom, is left out by bag.Add; it came nevertheless.
func TestP15_1_WhatWouldBeTooOften(t *testing.T) {
	for _, kind := range []int{api.KSum, api.KTotal} {
		all := c(made(at(1), saw(n(often-1, 1, 1), n(-often, 1, 2)), n(1, 1, 9)))
		stands := func(want [2][]api.Item, late bool, x api.Rec, many int) {
			t.Helper()
			got, gotLate, ok := comes(t, all, kind, 0, at(1), x, many)
			if !same(got, c(again(at(1), want, n(1, 1, 9)))) || gotLate != late || !ok {
				t.Fatalf("%s, %t, %t", brief(got), gotLate, ok)
			}
		}
		stands(saw(n(often, 1, 1), n(-often, 1, 2)), true, r(1, 1), 1)
		stands(all[0].In, true, r(1, 1), 2)
		stands(all[0].In, true, r(1, 1), often)
		stands(saw(n(-1, 1, 1), n(-often, 1, 2)), true, r(1, 1), -often)
		stands(all[0].In, true, r(1, 2), -1)
		stands(all[0].In, true, r(1, 2), -often)
		stands(saw(n(often-1, 1, 1)), true, r(1, 2), often)
		all, _, _ = comes(t, all, kind, 0, at(1), r(1, 1), 2)
		stands(all[0].In, false, r(1, 1), 2)
	}
}

// Of each of both flags, at the slot's own timestamp: it is a straggler just where the slot was made, and stood.
func TestP15_1_StragglersOfASlotItself(t *testing.T) {
	for _, kind := range kinds() {
		for _, port := range []int{0, 1} {
			for i := range 4 {
				s := made(at(1, 2), saw(n(1, 1, 1)), n(1, 1, 1))
				s.Dirty, s.Fired = i&1 > 0, i&2 > 0
				all := c(one(at(1, 1)), s, one(at(1, 3)))
				all[0].Fired, all[2].Fired = false, false
				got, late, ok := comes(t, all, kind, port, at(1, 2), r(1, 1), 1)
				if late != (i == 2) || !ok || !got[1].Dirty || got[1].Fired != s.Fired {
					t.Fatalf("kind %d, port %d: Come(%s) = %s, %t, %t", kind, port, brief(all), brief(got), late, ok)
				}
			}
		}
	}
}

// A slot that is there makes none a straggler that comes to another timestamp, but for a KTotal.
func TestP15_1_StragglersOfLaterSlots(t *testing.T) {
	for _, u := range times(at(0), at(1), at(2), at(0, 0), at(0, 2), at(1, 1), at(1, 2), at(1, 3), at(2, 0), at(2, 2), at(0, 64), at(1, 2, 0), at(1, 2, 3), at(0, 0, 0), at(1, 2, 3, 4)) {
		for _, kind := range kinds() {
			for i := range 4 {
				for _, v := range times(at(1), at(1, 2), at(1, 2, 3)) {
					s := made(v, saw(n(1, 1, 1)), n(1, 1, 1))
					s.Dirty, s.Fired = i&1 > 0, i&2 > 0
					got, late, _ := comes(t, c(s), kind, 0, u, r(1, 1), 1)
					later := u == v || kind == api.KTotal && u.D == v.D && u.C[0] <= v.C[0] && u.C[1] <= v.C[1] && u.C[2] <= v.C[2]
					if x, _ := cell.At(got, v); late != (later && i == 2) || x.Dirty != (later || s.Dirty) || x.Fired != s.Fired {
						t.Fatalf("kind %d: what comes at %v to %s: %s, %t", kind, u, brief(c(s)), brief(got), late)
					}
				}
			}
		}
	}
}

// Of several later slots one that was made and stood is enough, wherever it is; those that are before or beside play no part.
func TestP15_1_StragglersOfATotal(t *testing.T) {
	all := c(one(at(0, 0)), one(at(0, 2)), one(at(1, 0)), one(at(1, 1)), one(at(1, 2)), one(at(2)), one(at(2, 0)), one(at(2, 1)), one(at(2, 1, 0)), one(at(3, 5)))
	for many := range 1 << len(all) {
		l := slices.Clone(all)
		want, dirty := false, 0
		for i := range l {
			l[i].Dirty = many>>i&1 > 0
			if later := i == 3 || i == 4 || i == 7 || i == 9; later && !l[i].Dirty {
				want = true
			} else if later || l[i].Dirty {
				dirty++
			}
		}
		for _, port := range []int{0, 1} {
			got, late, _ := comes(t, l, api.KTotal, port, at(1, 1), r(5, 5), 1)
			if late != want {
				t.Fatalf("what comes at 1.1 to %s: %t", brief(l), late)
			}
			if stale := cell.Stale(got); len(stale) < dirty {
				t.Fatalf("%v are stale", stale)
			}
			got, late, _ = comes(t, l, api.KSum, port, at(1, 1), r(5, 5), 1)
			if late != !l[3].Dirty || len(got) != len(all) {
				t.Fatalf("what comes at 1.1 to the sum's %s: %t", brief(l), late)
			}
		}
	}
}

// What takes all away of a slot leaves none, if nothing was sent; it may be a straggler, and make later ones stale.
func TestP15_1_WhatBecomesEmptyIsGone(t *testing.T) {
	for _, kind := range kinds() {
		for _, port := range []int{0, 1} {
			var in [2][]api.Item
			in[port] = l(n(2, 1, 1))
			for i, s := range c(stale(at(1), in), made(at(1), in), again(at(1), in), api.Slot{Time: at(1), In: in}) {
				for _, all := range [][]api.Slot{c(s), c(one(at(0)), s), c(s, one(at(2))), c(one(at(0)), s, stale(at(2), saw(n(1, 1, 1))))} {
					got, late, ok := comes(t, all, kind, port, at(1), r(1, 1), -2)
					if len(got) != len(all)-1 || late != (i == 1 || kind == api.KTotal && slices.ContainsFunc(all, func(s api.Slot) bool { return s.Time == at(2) && s.Fired })) || !ok {
						t.Fatalf("kind %d: Come(%s) = %s, %t", kind, brief(all), brief(got), late)
					}
					if got, _, _ := comes(t, all, kind, port, at(1), r(1, 1), -1); len(got) != len(all) {
						t.Fatalf("%s is gone too early: %s", brief(all), brief(got))
					}
					if got, _, _ := comes(t, all, kind, 1-port, at(1), r(1, 1), -2); len(got) != len(all) {
						t.Fatalf("%s is gone by the other port: %s", brief(all), brief(got))
					}
				}
			}
			// What was sent stays to be taken back.
			s := made(at(1), in, n(1, 1, 1))
			if got, _, _ := comes(t, c(s), kind, port, at(1), r(1, 1), -2); !same(got, c(again(at(1), saw(), n(1, 1, 1)))) {
				t.Fatalf("%s", brief(got))
			}
		}
	}
	// Just the slot of the timestamp goes, and that of another key or value stays.
	all := c(stale(at(1), saw(n(1, 1, 1))), stale(at(2), saw(n(1, 1, 1))))
	got, _, _ := comes(t, all, api.KTotal, 0, at(1), r(1, 1), -1)
	if !same(got, c(all[1])) {
		t.Fatalf("%s", brief(got))
	}
	for _, x := range []api.Rec{r(1, 2), r(2, 1)} {
		if got, _, _ := comes(t, all, api.KTotal, 0, at(1), x, -1); len(got) != 2 {
			t.Fatalf("%s", brief(got))
		}
	}
}

// A slot that was gone begins anew: what comes then is no straggler of it.
func TestP15_1_WhatIsGoneBeginsAnew(t *testing.T) {
	all := c(made(at(1), saw(n(1, 1, 1))))
	all, late, _ := comes(t, all, api.KSum, 0, at(1), r(1, 1), -1)
	if len(all) != 0 || !late {
		t.Fatalf("%s, %t", brief(all), late)
	}
	all, late, _ = comes(t, all, api.KSum, 0, at(1), r(1, 1), 1)
	if !same(all, c(stale(at(1), saw(n(1, 1, 1))))) || late {
		t.Fatalf("%s, %t", brief(all), late)
	}
}

func TestP15_1_NextStaleAt(t *testing.T) {
	all := c(made(at(0), saw(n(1, 1, 1))), stale(at(1), saw(n(2, 1, 1))), api.Slot{Time: at(1, 0), Sent: l(n(1, 1, 1))}, again(at(1, 2), saw1(n(3, 1, 1)), n(1, 2, 2)), one(at(3)), again(at(4), saw(n(1, 1, 1))))
	if got := cell.Stale(all); !slices.Equal(got, times(at(1), at(1, 2), at(4))) {
		t.Errorf("Stale = %v", got)
	}
	if got, ok := cell.Next(all); got != at(1) || !ok {
		t.Errorf("Next = %v, %t", got, ok)
	}
	for i, s := range all {
		if got, ok := cell.At(all, s.Time); !ok || !sameSlot(got, all[i]) {
			t.Errorf("At %v = %v, %t", s.Time, got, ok)
		}
		tells(t, all[i:])
		tells(t, all[:i])
	}
	for _, u := range append(wrongTimes(), at(2), at(0, 0), at(1, 1), at(1, 2, 0), at(1, 2, 3), at(5), at(0, 4)) {
		if got, ok := cell.At(all, u); ok || !sameSlot(got, api.Slot{}) {
			t.Errorf("At %v = %v, %t", u, got, ok)
		}
	}
	for _, none := range [][]api.Slot{nil, c(), c(one(at(0))), c(one(at(0)), one(at(1)))} {
		if got, ok := cell.Next(none); ok || got != (api.Time{}) || len(cell.Stale(none)) != 0 {
			t.Errorf("Next(%s) = %v, %t", brief(none), got, ok)
		}
	}
}

// Of a cell that isn't right Come answers it as it is, and false; Next, Stale and At answer nothing.
func TestP15_1_AnswersOfWrongCells(t *testing.T) {
	for _, all := range wrongCells() {
		for _, kind := range []int{api.KSum, api.KTotal} {
			for _, s := range all {
				for _, port := range []int{0, 1} {
					if got, late, ok := comes(t, all, kind, port, s.Time, r(1, 1), 1); !same(got, all) || late || ok {
						t.Fatalf("Come(%s) = %s, %t, %t", brief(all), brief(got), late, ok)
					}
				}
			}
			comes(t, all, kind, 0, at(7), r(1, 1), 1)
			comes(t, all, kind, 0, at(0), r(1, 1), -1)
		}
		dirty := slices.Clone(all)
		for i := range dirty {
			dirty[i].Dirty = true
		}
		tells(t, dirty)
		for _, s := range dirty {
			if u, ok := cell.Next(dirty); ok || u != (api.Time{}) || len(cell.Stale(dirty)) != 0 {
				t.Fatalf("Next(%s) = %v, %t", brief(dirty), u, ok)
			}
			if got, ok := cell.At(dirty, s.Time); ok || !sameSlot(got, api.Slot{}) {
				t.Fatalf("At(%s) = %v, %t", brief(dirty), got, ok)
			}
		}
	}
}
