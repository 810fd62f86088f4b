package cell_test

import (
	"slices"
	"testing"

	"backwash/api"
	"backwash/cell"
)

// step is what is done to a cell, and what has to come of it.
type step struct {
	all          []api.Slot
	taken, given []api.Item
}

// gives says so if a slot made anew isn't, lazily and not, as it has to be by hand.
func gives(t *testing.T, all []api.Slot, x api.Node, u api.Time, eager, lazy step) {
	t.Helper()
	for i, want := range []step{eager, lazy} {
		got, taken, given, ok := makes(t, all, x, u, i == 1)
		if !ok || !same(got, want.all) || !slices.Equal(taken, want.taken) || !slices.Equal(given, want.given) {
			t.Fatalf("Make(%s, %v, %v, %t) = %s, %v, %v, %t", brief(all), x, u, i == 1, brief(got), taken, given, ok)
		}
	}
}

// refuses says so if a slot is made, or anything is answered beside the cell as it is.
func refuses(t *testing.T, all []api.Slot, x api.Node, u api.Time) {
	t.Helper()
	for _, lazy := range []bool{false, true} {
		got, taken, given, ok := makes(t, all, x, u, lazy)
		if ok || !same(got, all) || len(taken)+len(given) > 0 {
			t.Fatalf("Make(%s, %v, %v, %t) = %s, %v, %v, %t", brief(all), x, u, lazy, brief(got), taken, given, ok)
		}
	}
}

// The chapter's example.
func TestP15_2_Example(t *testing.T) {
	for _, lazy := range []bool{false, true} {
		all, late, ok := cell.Come(nil, api.KSum, 0, at(0), r(1, 2), 1)
		if late || !ok {
			t.Fatalf("%s, %t, %t", brief(all), late, ok)
		}
		all, taken, given, ok := cell.Make(all, of(api.KSum), at(0), lazy)
		if !ok || len(taken) > 0 || !slices.Equal(given, l(n(1, 1, 2))) || !same(all, c(made(at(0), saw(n(1, 1, 2)), n(1, 1, 2)))) {
			t.Fatalf("%s, %v, %v, %t", brief(all), taken, given, ok)
		}
		all, late, ok = cell.Come(all, api.KSum, 0, at(0), r(1, 3), 1)
		if !late || !ok {
			t.Fatalf("%s, %t, %t", brief(all), late, ok)
		}
		all, taken, given, ok = cell.Make(all, of(api.KSum), at(0), lazy)
		if !ok || !slices.Equal(taken, l(n(1, 1, 2))) || !slices.Equal(given, l(n(1, 1, 5))) || !same(all, c(made(at(0), saw(n(1, 1, 2), n(1, 1, 3)), n(1, 1, 5)))) {
			t.Fatalf("%s, %v, %v, %t", brief(all), taken, given, ok)
		}
	}
}

// Each kind makes what it makes of its bags; each slot but the one that is made stays.
func TestP15_2_EachKind(t *testing.T) {
	for _, x := range nodes() {
		for _, s := range c(stale(at(1), saw(n(2, 1, 2), n(1, 1, 3), n(3, 2, 5), n(-1, 3, 1))), stale(at(1), both(l(n(2, 1, 2), n(1, 4, 4)), l(n(1, 1, 7), n(2, 2, 8), n(-2, 4, 4)))), stale(at(1), saw1(n(2, 1, 2))), again(at(1), saw(n(1, 1, 2)), n(1, 1, 2), n(1, 2, 2)), again(at(1), saw(), n(2, 1, 2)), again(at(1), saw(n(-1, 1, 1)), n(-1, 1, 1))) {
			for _, all := range [][]api.Slot{c(s), c(one(at(0)), s, stale(at(2), saw(n(1, 1, 1)))), c(stale(at(0), saw(n(1, 1, 1))), s, one(at(1, 0)))} {
				for _, lazy := range []bool{false, true} {
					if _, _, _, ok := makes(t, all, x, at(1), lazy); !ok {
						t.Fatalf("%v isn't made of %s", x, brief(all))
					}
				}
			}
		}
	}
}

// A slot that was never made gives all, whether lazily or not, and takes nothing back.
func TestP15_2_TheFirstTime(t *testing.T) {
	in := both(l(n(2, 1, 2), n(1, 1, 3)), l(n(1, 1, 4), n(-1, 2, 2)))
	first := func(x api.Node, given ...api.Item) {
		t.Helper()
		want := step{c(made(at(1), in, given...)), nil, given}
		gives(t, c(stale(at(1), in)), x, at(1), want, want)
	}
	first(of(api.KSum), n(1, 1, 7))
	first(of(api.KCount), n(1, 1, 3))
	first(of(api.KDistinct), n(1, 1, 2), n(1, 1, 3))
	first(of(api.KConcat), n(2, 1, 2), n(1, 1, 3), n(1, 1, 4))
	first(of(api.KJoin), n(2, 1, 6), n(1, 1, 7))
	first(of(api.KTotal), n(1, 1, 7))
	first(of(api.KSink), n(2, 1, 2), n(1, 1, 3))
	first(by(api.KKeep, 3), n(1, 1, 3))
	first(by(api.KKeep, 5))
	first(of(0))
}

// What was sent is as it is made now: nothing is taken back nor given.
func TestP15_2_TheSameAgain(t *testing.T) {
	for _, b := range [][]api.Item{l(n(1, 1, 2)), l(n(3, 1, 2), n(often/(1<<16), 1, 3), n(7, 5, 0))} {
		want := step{c(made(at(1), saw(b...), b...)), nil, nil}
		gives(t, c(again(at(1), saw(b...), b...)), of(api.KInspect), at(1), want, want)
		gives(t, c(stale(at(1), saw(b...), b...)), of(api.KSink), at(1), want, want)
	}
	// Nothing again, too.
	want := step{c(made(at(1), saw(n(1, 1, 1)))), nil, nil}
	gives(t, c(again(at(1), saw(n(1, 1, 1)))), by(api.KKeep, 2), at(1), want, want)
}

// What was sent is partly as it is made now: lazily just what has changed is taken back and given.
func TestP15_2_PartlyTheSame(t *testing.T) {
	was, is := l(n(2, 1, 2), n(5, 1, 3), n(1, 2, 0), n(4, 4, 4)), l(n(3, 1, 2), n(1, 1, 3), n(2, 3, 0), n(4, 4, 4))
	all := c(made(at(1), saw(is...), is...))
	gives(t, c(again(at(1), saw(is...), was...)), of(api.KEnter), at(1), step{all, was, is}, step{all, l(n(4, 1, 3), n(1, 2, 0)), l(n(1, 1, 2), n(2, 3, 0))})
	// One more, one less.
	all = c(made(at(1), saw(n(3, 1, 2)), n(3, 1, 2)))
	gives(t, c(again(at(1), saw(n(3, 1, 2)), n(2, 1, 2))), of(api.KBack), at(1), step{all, l(n(2, 1, 2)), l(n(3, 1, 2))}, step{all, nil, l(n(1, 1, 2))})
	gives(t, c(again(at(1), saw(n(3, 1, 2)), n(4, 1, 2))), of(api.KLeave), at(1), step{all, l(n(4, 1, 2)), l(n(3, 1, 2))}, step{all, l(n(1, 1, 2)), nil})
}

// What was sent is apart of what is made now, or one of them is nothing.
func TestP15_2_Apart(t *testing.T) {
	was, is := l(n(2, 1, 2), n(5, 3, 3)), l(n(3, 1, 3), n(1, 2, 2))
	all := c(made(at(1), saw(is...), is...))
	gives(t, c(again(at(1), saw(is...), was...)), of(api.KInput), at(1), step{all, was, is}, step{all, was, is})
	gives(t, c(again(at(1), saw(is...))), of(api.KInput), at(1), step{all, nil, is}, step{all, nil, is})
	gives(t, c(again(at(1), saw1(is...), was...)), of(api.KInput), at(1), step{c(made(at(1), saw1(is...))), was, nil}, step{c(made(at(1), saw1(is...))), was, nil})
}

// Of what was sent just what is there is taken back; lazily the difference says what is there.
func TestP15_2_WhatWasSentLessThanOnce(t *testing.T) {
	was, is := l(n(-2, 1, 1), n(1, 1, 2), n(-often, 2, 2), n(-1, 3, 3), n(often, 4, 4)), l(n(3, 1, 1), n(5, 2, 2))
	all := c(made(at(1), saw(is...), is...))
	gives(t, c(again(at(1), saw(is...), was...)), of(api.KConcat), at(1), step{all, l(n(1, 1, 2), n(often, 4, 4)), is}, step{all, l(n(1, 1, 2), n(often, 4, 4)), l(n(5, 1, 1), n(5, 2, 2), n(1, 3, 3))})
	// It isn't the same as nothing.
	gives(t, c(again(at(1), saw(n(-1, 1, 1)), n(-1, 1, 1))), of(api.KSum), at(1), step{c(made(at(1), saw(n(-1, 1, 1)))), nil, nil}, step{c(made(at(1), saw(n(-1, 1, 1)))), nil, l(n(1, 1, 1))})
}

// A slot to which nothing comes any more is gone, once what it sent was taken back.
func TestP15_2_WhatBecomesEmptyIsGone(t *testing.T) {
	for _, x := range nodes() {
		was := l(n(2, 1, 2), n(1, 3, 3))
		want := step{nil, was, nil}
		gives(t, c(again(at(1), saw(), was...)), x, at(1), want, want)
		want.all = c(one(at(0)), stale(at(2), saw(n(1, 1, 1))))
		if x.Kind == api.KTotal {
			want.all[0] = made(at(0), saw1(n(1, 1, 1)))
		}
		gives(t, slices.Insert(slices.Clone(want.all), 1, again(at(1), saw(), was...)), x, at(1), want, want)
		// One to which something came that counts for nothing stays.
		want = step{c(made(at(1), both(l(n(-1, 1, 2)), l(n(-1, 1, 1))))), was, nil}
		gives(t, c(again(at(1), want.all[0].In, was...)), x, at(1), want, want)
	}
}

// A KTotal is made of what came to its port 0 at or before its timestamp, stale or not, and of nothing else.
func TestP15_2_Total(t *testing.T) {
	all := c(
		stale(at(0, 0), saw(n(1, 1, 1), n(1, 2, 2))), made(at(0, 2), saw(n(2, 1, 10)), n(1, 1, 21)), one(at(0, 9)),
		again(at(1), saw(n(1, 1, 500)), n(1, 1, 1)), stale(at(1, 0), both(l(n(-1, 1, 1), n(4, 3, 1)), l(n(9, 1, 77)))), stale(at(1, 2), both(l(n(1, 1, 100), n(1, 2, 9)), l(n(1, 1, 3000)))),
		stale(at(1, 2, 0), saw(n(1, 1, 40000))), made(at(1, 3), saw(n(1, 1, 6000))), one(at(2)), stale(at(2, 1), saw(n(1, 1, 70000))))
	with := func(i int, sent ...api.Item) step {
		want := slices.Clone(all)
		want[i].Dirty, want[i].Fired, want[i].Sent = false, true, sent
		return step{want, nil, sent}
	}
	total := func(i int, sent ...api.Item) {
		t.Helper()
		gives(t, all, of(api.KTotal), all[i].Time, with(i, sent...), with(i, sent...))
	}
	total(0, n(1, 1, 1), n(1, 2, 2))
	total(4, n(1, 3, 4))
	total(5, n(1, 1, 120), n(1, 2, 11))
	total(6, n(1, 1, 40000))
	total(9, n(1, 1, 70000))
	// Taken back is what was sent.
	want := with(3, n(1, 1, 500))
	want.taken = l(n(1, 1, 1))
	gives(t, all, of(api.KTotal), at(1), want, want)
	// A sum is no total.
	want = with(5, n(1, 1, 100), n(1, 2, 9))
	gives(t, all, of(api.KSum), at(1, 2), want, want)
}

// Of a key that isn't there at a timestamp nothing is told, though there is a total; and of one that was taken away ahead what is there in all counts.
func TestP15_2_TotalOfWhatIsThere(t *testing.T) {
	all := c(stale(at(0), saw(n(3, 1, 5), n(-2, 2, 7), n(1, 2, 8))), stale(at(1), saw(n(-1, 1, 5), n(2, 2, 7), n(-1, 2, 8), n(1, 2, 9), n(1, 3, 0))), stale(at(2), saw1(n(1, 1, 1))))
	total := func(u api.Time, sent ...api.Item) {
		t.Helper()
		i := slices.IndexFunc(all, func(s api.Slot) bool { return s.Time == u })
		want := slices.Clone(all)
		want[i].Dirty, want[i].Fired, want[i].Sent = false, true, sent
		gives(t, all, of(api.KTotal), u, step{want, nil, sent}, step{want, nil, sent})
	}
	total(at(0), n(1, 1, 15), n(1, 2, 8))
	total(at(1), n(1, 2, 9), n(1, 3, 0))
	total(at(2))
}

// Together the bags are as bag.Plus says, slot by slot: what would be too often is left out.
func TestP15_2_TotalOfTooMany(t *testing.T) {
	for _, many := range [][]int{{often, often}, {often, 1, -1}, {often, often, -often}, {often, often, -often, 5}, {often - 1, 2, 1}, {often / 2, often, often / 2}, {-often, -1, often, 3}, {-often, -often, often}, {1, often, -1, often}, {often, -often, 7}, {1, -1, 1}, {often, -1, 1, 1}} {
		var all []api.Slot
		want := 0
		for i, x := range many {
			all = append(all, stale(at(i), saw(n(x, 1, 3), n(1, 2, int64(i)))))
			if sum := want + x; -often <= sum && sum <= often {
				want = sum
			}
		}
		last := len(many)
		all = append(all, stale(at(last), saw(n(1, 1, 4))))
		got, _, given, _ := makes(t, all, of(api.KTotal), at(last), true)
		if !slices.Equal(given, l(n(1, 1, 4+3*max(0, int64(want))))) || len(got) != last+1 {
			t.Errorf("%v: %v", many, given)
		}
	}
}

// Many slots of a KTotal, each with other records and with the same, take no longer than their number.
func TestP15_2_LongTotals(t *testing.T) {
	var all []api.Slot
	sum := int64(0)
	for i := range 1 << 14 {
		v := int64(i * 7919 % (1 << 14))
		all = append(all, stale(at(i), saw(n(1, 0, v), n(2, 1, 3), n(1, 2+v, 0))))
		sum += v
	}
	last := at(len(all) - 1)
	v := all[len(all)-1].In[0][0].Rec.V
	want := l(n(1, 0, sum), n(1, 1, 6<<14), n(1, 2+v, 0))
	for _, lazy := range []bool{false, true} {
		got, taken, given, ok := cell.Make(all, of(api.KTotal), last, lazy)
		if !ok || len(taken) > 0 || !slices.Equal(given, want) || !slices.Equal(got[len(all)-1].Sent, want) {
			t.Errorf("%v, %v, %t", taken, given, ok)
		}
	}
}

// At the room a slot is made; where one more would come it stays as it is, stale, and so it is made once there is room again.
func TestP15_2_Room(t *testing.T) {
	for _, x := range []api.Node{of(api.KInput), of(api.KSink), of(api.KConcat), by(api.KShift, 4), by(api.KKeep, 1)} {
		v := x.Arg
		if x.Kind == api.KKeep {
			v = 0
		}
		full, more := l(n(1<<16-1, 1, 1), n(1, 2, 2)), l(n(1<<16-1, 1, 1), n(2, 2, 2))
		sent := l(n(1<<16-1, 1, 1+v), n(1, 2, 2+v))
		want := step{c(made(at(1), saw(full...), sent...)), nil, sent}
		gives(t, c(stale(at(1), saw(full...))), x, at(1), want, want)
		for _, all := range [][]api.Slot{c(stale(at(1), saw(more...))), c(again(at(1), saw(more...), n(1, 3, 3))), c(one(at(0)), stale(at(1), saw(n(1<<16+1, 1, 1))), one(at(2)))} {
			refuses(t, all, x, at(1))
		}
		all, _, _ := comes(t, c(again(at(1), saw(more...), n(1, 3, 3))), x.Kind, 0, at(1), r(2, 2), -1)
		want.taken = l(n(1, 3, 3))
		gives(t, all, x, at(1), want, want)
	}
	both := both(l(n(1<<8, 1, 1)), l(n(1<<8, 1, 2)))
	want := step{c(made(at(1), both, n(1<<16, 1, 3))), nil, l(n(1<<16, 1, 3))}
	gives(t, c(stale(at(1), both)), of(api.KJoin), at(1), want, want)
	both[0] = l(n(1<<8, 1, 1), n(1, 1, 2))
	refuses(t, c(stale(at(1), both)), of(api.KJoin), at(1))
	refuses(t, c(stale(at(1), both, n(1, 1, 1))), of(api.KJoin), at(1))
	// A sum has room for what has none by itself, since it makes one record of it.
	want = step{c(made(at(1), saw(n(often, 1, 2)), n(1, 1, 2*often))), nil, l(n(1, 1, 2*often))}
	gives(t, c(stale(at(1), saw(n(often, 1, 2)))), of(api.KSum), at(1), want, want)
}

// A KTotal has room for as many keys as there are at its timestamp, however many came before; not for one more.
func TestP15_2_RoomOfATotal(t *testing.T) {
	var keys []api.Item
	for i := range int64(1<<16 + 1) {
		keys = append(keys, n(1, i, 1))
	}
	all := c(stale(at(0), saw(keys...)), stale(at(1), saw(keys[1:]...)), stale(at(2), saw(n(1, 9, 3))))
	if got, taken, given, ok := cell.Make(all, of(api.KTotal), at(0), true); ok || len(taken)+len(given) > 0 || !same(got, all) {
		t.Errorf("%s, %v, %v, %t", brief(got), short(taken), short(given), ok)
	}
	twice := slices.Clone(keys[1:])
	for i := range twice {
		twice[i].Rec.V = 2
	}
	for u, want := range map[api.Time][]api.Item{at(1): twice, at(2): l(n(1, 9, 5))} {
		got, taken, given, ok := cell.Make(all, of(api.KTotal), u, true)
		if s, _ := cell.At(got, u); !ok || len(taken) > 0 || !slices.Equal(given, want) || !slices.Equal(s.Sent, want) || s.Dirty || !s.Fired {
			t.Errorf("%v: %v, %v, %t", u, short(taken), short(given), ok)
		}
	}
}

// A slot is made just if it is there, and stale.
func TestP15_2_WhatIsNotMade(t *testing.T) {
	all := c(one(at(0)), stale(at(1), saw(n(1, 1, 1))), api.Slot{Time: at(1, 1), In: saw(n(1, 1, 1))}, again(at(2), saw(n(1, 1, 1)), n(1, 1, 1)), one(at(3)))
	for _, x := range nodes() {
		for _, u := range append(wrongTimes(), at(0), at(1, 1), at(3), at(4), at(1, 0), at(1, 2), at(2, 0), at(0, 0), at(1<<20)) {
			refuses(t, all, x, u)
			refuses(t, nil, x, u)
		}
		for _, u := range times(at(1), at(2)) {
			got, _, _, ok := makes(t, all, x, u, true)
			if !ok {
				t.Fatalf("%v isn't made at %v", x, u)
			}
			refuses(t, got, x, u)
		}
	}
}

// Of a cell that isn't right Make answers it as it is, nothing, and false.
func TestP15_2_AnswersOfWrongCells(t *testing.T) {
	for _, all := range wrongCells() {
		dirty := slices.Clone(all)
		for i := range dirty {
			dirty[i].Dirty = true
		}
		for _, x := range []api.Node{of(api.KSum), of(api.KTotal), of(api.KInspect), of(0)} {
			for _, s := range all {
				refuses(t, all, x, s.Time)
				refuses(t, dirty, x, s.Time)
			}
			refuses(t, dirty, x, at(0))
			refuses(t, dirty, x, at(7))
		}
	}
}

// What comes of a KTotal's stale slots hangs on nothing that was sent, nor on which is made first.
func TestP15_2_TotalsInAnyOrder(t *testing.T) {
	all := c(stale(at(0), saw(n(1, 1, 1)), n(5, 1, 7)), again(at(0, 1), saw(n(1, 1, 2))), stale(at(1), saw(n(1, 1, 4)), n(1, 1, 9)), again(at(1, 1), saw(n(1, 1, 8))), stale(at(2), saw(n(-1, 1, 1), n(1, 1, 16))))
	want := c(made(at(0), saw(n(1, 1, 1)), n(1, 1, 1)), made(at(0, 1), saw(n(1, 1, 2)), n(1, 1, 2)), made(at(1), saw(n(1, 1, 4)), n(1, 1, 5)), made(at(1, 1), saw(n(1, 1, 8)), n(1, 1, 10)), made(at(2), saw(n(-1, 1, 1), n(1, 1, 16)), n(1, 1, 20)))
	orders := 0
	var grow func(now []api.Slot)
	grow = func(now []api.Slot) {
		left := cell.Stale(now)
		for _, u := range left {
			if next, _, _, ok := makes(t, now, of(api.KTotal), u, orders%2 > 0); ok && len(cell.Stale(next)) < len(left) {
				grow(next)
			}
		}
		if len(left) == 0 {
			orders++
			if !same(now, want) {
				t.Fatalf("%s, not %s", brief(now), brief(want))
			}
		}
	}
	grow(all)
	if orders != 120 {
		t.Errorf("%d orders", orders)
	}
}
