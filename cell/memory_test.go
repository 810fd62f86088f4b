package cell_test

import (
	"slices"
	"testing"

	"backwash/api"
	"backwash/cell"
)

// copied are slots whose bags are in memory of their own.
func copied(all []api.Slot) []api.Slot {
	l := slices.Clone(all)
	for i := range l {
		l[i].In[0], l[i].In[1], l[i].Sent = slices.Clone(l[i].In[0]), slices.Clone(l[i].In[1]), slices.Clone(l[i].Sent)
	}
	return l
}

// spare is a bag with room behind it, in which other items stand.
func spare(b []api.Item) []api.Item {
	return append(slices.Clone(b), n(91, 91, 91), n(92, 92, 92), n(93, 93, 93))[:len(b)]
}

// roomy is a cell with spare room behind it and behind each of its bags, and all of the cell's room.
func roomy(all []api.Slot) (list, whole []api.Slot) {
	for _, s := range append(slices.Clone(all), one(at(50)), stale(at(51), saw(n(1, 1, 1))), one(at(52))) {
		s.In[0], s.In[1], s.Sent = spare(s.In[0]), spare(s.In[1]), spare(s.Sent)
		whole = append(whole, s)
	}
	return whole[:len(all)], whole
}

// full is all that stands in slots, and in the room behind their bags.
func full(whole []api.Slot) []api.Slot {
	l := slices.Clone(whole[:cap(whole)])
	for i := range l {
		for _, b := range []*[]api.Item{&l[i].In[0], &l[i].In[1], &l[i].Sent} {
			*b = slices.Clone((*b)[:cap(*b)])
		}
	}
	return l
}

// scribble over a list and its spare room.
func scribble[T any](list []T, x T) {
	list = list[:cap(list)]
	for i := range list {
		list[i] = x
	}
}

// apart says so if what was handed in was changed, its spare room too, if that plays a part, or if the slots of an answer, and the bags beside them, are not in memory of their own. (The bags of slots may be shared: nothing changes them.)
func apart(t *testing.T, all []api.Slot, ask func(all []api.Slot) ([]api.Slot, [][]api.Item)) {
	t.Helper()
	plain, plainBags := ask(all)
	want, wantBags := copied(plain), [][]api.Item{}
	for _, b := range plainBags {
		wantBags = append(wantBags, slices.Clone(b))
	}
	list, whole := roomy(all)
	before := full(whole)
	stands := func(got []api.Slot, bags [][]api.Item, what string) {
		t.Helper()
		if !same(got, want) || !slices.EqualFunc(bags, wantBags, slices.Equal) {
			t.Fatalf("%s: %s and %v, not %s and %v", what, brief(got), bags, brief(want), wantBags)
		}
		if !same(full(whole), before) {
			t.Fatalf("%s: %s was changed", what, brief(list))
		}
	}
	got, bags := ask(list)
	stands(got, bags, "handed in with spare room")
	next, nextBags := ask(list)
	for _, b := range bags {
		scribble(b, n(99, 99, 99))
		stands(next, nextBags, "bags written over")
	}
	if !same(got, want) {
		t.Fatalf("%s is in one memory with the bags beside it", brief(got))
	}
	scribble(got, one(at(99)))
	stands(next, nextBags, "slots written over")
	// Two bags beside one another are apart, too.
	for i := range nextBags {
		scribble(nextBags[i], n(98, 98, 98))
		copy(nextBags[i], wantBags[i])
		stands(next, nextBags, "one bag of two written over")
	}
	scribble(list, one(at(97)))
	before = full(whole)
	stands(next, nextBags, "what was handed in written over")
}

// some are cells of all kinds, right and not.
func some() [][]api.Slot { return slices.Concat(rightCells(), wrongCells()) }

// What is handed in to Come stays as it is, whether the record comes or not, and its slots are not those of the answer.
func TestP15_1_WhatIsHandedInStays(t *testing.T) {
	for _, all := range some() {
		for _, u := range append(near(all)[len(wrongTimes()):], at(2), at(70000)) {
			for _, kind := range []int{api.KSum, api.KTotal} {
				for _, many := range []int{1, -1, 0} {
					for port := range 3 {
						apart(t, all, func(all []api.Slot) ([]api.Slot, [][]api.Item) {
							got, _, _ := cell.Come(all, kind, port, u, r(1, 1), many)
							return got, nil
						})
					}
				}
			}
		}
	}
}

// Right, Next, Stale and At change nothing, and Stale's timestamps are in memory of their own.
func TestP15_1_WhatIsAskedStays(t *testing.T) {
	for _, all := range some() {
		list, whole := roomy(all)
		before := full(whole)
		tells(t, list)
		stale, again := cell.Stale(list), cell.Stale(list)
		scribble(stale, at(9, 9))
		if !same(full(whole), before) || !slices.Equal(again, cell.Stale(list)) {
			t.Fatalf("%s was changed", brief(list))
		}
		for _, s := range list {
			got, _ := cell.At(list, s.Time)
			if got.Dirty = true; !same(full(whole), before) {
				t.Fatalf("%s was changed", brief(list))
			}
		}
	}
}

// So does what is handed in to Make, and what is taken back and given is in memory of its own.
func TestP15_2_WhatIsHandedInStays(t *testing.T) {
	for _, all := range some() {
		dirty := slices.Clone(all)
		for i := range dirty {
			dirty[i].Dirty = true
		}
		for _, s := range dirty {
			for _, x := range nodes() {
				for _, lazy := range []bool{false, true} {
					for _, handed := range [][]api.Slot{all, dirty} {
						code := slices.Clone(x.Prog)
						apart(t, handed, func(all []api.Slot) ([]api.Slot, [][]api.Item) {
							got, taken, given, _ := cell.Make(all, x, s.Time, lazy)
							return got, [][]api.Item{taken, given}
						})
						if !slices.Equal(code, x.Prog) {
							t.Fatalf("%v was changed", x)
						}
					}
				}
			}
		}
	}
}

// So does what is handed in to Drop, the timestamps ahead too.
func TestP15_3_WhatIsHandedInStays(t *testing.T) {
	for _, all := range some() {
		for _, kind := range []int{api.KSum, api.KTotal} {
			for _, before := range [][]api.Time{nil, times(at(0)), times(at(3), at(1), at(-1), at(0, 0))} {
				room := append(slices.Clone(before), at(0), at(0, 0), at(9))
				was := slices.Clone(room)
				apart(t, all, func(all []api.Slot) ([]api.Slot, [][]api.Item) {
					return cell.Drop(all, kind, room[:len(before)]), nil
				})
				if !slices.Equal(room, was) {
					t.Fatalf("%v was changed", before)
				}
			}
		}
	}
}
