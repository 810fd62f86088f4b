package cell_test

import (
	"maps"
	"slices"
	"testing"

	"backwash/api"
	"backwash/cell"
	"backwash/ops"
)

// chance is a row of numbers that looks like chance, the same each time.
type chance uint64

// below n, from 0 on.
func (x *chance) below(n int) int {
	*x = *x*6364136223846793005 + 1442695040888963407
	return int(uint64(*x)>>33) % n
}

// time of few, so that the same one comes often; of one coordinate, or of up to three.
func (x *chance) time(depth int) api.Time {
	t := api.Time{D: depth}
	for i := range depth {
		t.C[i] = x.below(3)
	}
	return t
}

// rec of few.
func (x *chance) rec() api.Rec {
	return r(int64(x.below(2)), []int64{0, 1, 2, 3, -4, 1<<63 - 1, -1 << 63}[x.below(7)])
}

// often a record comes: mostly once, often taken back, seldom as often as may be.
func (x *chance) often() int {
	if x.below(30) == 0 {
		return []int{often, -often, often - 1, 1 << 16, often + 1, 0}[x.below(6)]
	}
	return []int{1, 1, 1, 2, -1, -1, -2}[x.below(7)]
}

// bag of few records, seldom one that isn't right.
func (x *chance) bag() []api.Item {
	p := pile{}
	for range x.below(4) {
		p.add(x.rec(), x.often())
	}
	b := p.bag(-often)
	if len(b) > 1 && x.below(60) == 0 {
		b[0], b[1] = b[1], b[0]
	}
	return b
}

// cell of any slots, often not right.
func (x *chance) cell() []api.Slot {
	m := loose{}
	for range x.below(6) {
		t := x.time(1 + x.below(2))
		m[t] = api.Slot{Time: t, In: both(x.bag(), x.bag()), Sent: x.bag(), Dirty: x.below(2) > 0, Fired: x.below(2) > 0}
	}
	all := m.cell()
	if len(all) > 1 && x.below(20) == 0 {
		i := x.below(len(all) - 1)
		all[i], all[i+1] = all[i+1], all[i]
	}
	if len(all) > 0 && x.below(40) == 0 {
		all = append(all, all[x.below(len(all))])
	}
	return all
}

// lowest are a few timestamps, no chain.
func (x *chance) lowest() []api.Time {
	var l []api.Time
	for range x.below(3) {
		l = append(l, x.time(1+x.below(2)))
	}
	return l
}

// Steps by chance, each held against the slow answer.
func TestP15_4_ManySteps(t *testing.T) {
	x := chance(15)
	late, gone, refused, dropped := 0, 0, 0, 0
	for round := range 40 {
		for _, op := range nodes() {
			var all []api.Slot
			depth := 1 + round%3
			for step := range 40 {
				had := len(all)
				switch x.below(8) {
				case 0, 1, 2, 3:
					got, straggles, ok := comes(t, all, op.Kind, x.below(2), x.time(depth), x.rec(), x.often())
					if all = got; straggles {
						late++
					}
					if !ok {
						refused++
					}
				case 4, 5, 6:
					u, ok := cell.Next(all)
					if !ok || x.below(3) == 0 {
						u = x.time(depth)
					}
					got, _, _, _ := makes(t, all, op, u, x.below(2) > 0)
					all = got
				case 7:
					if x.below(4) == 0 {
						all = drops(t, all, op.Kind, x.time(depth), x.time(depth))
						dropped += had - len(all)
						had = len(all)
					}
				}
				if len(all) < had {
					gone++
				}
				if step%8 == 0 {
					tells(t, all)
				}
			}
		}
	}
	if late < 1000 || gone < 20 || refused < 100 || dropped < 100 {
		t.Errorf("%d stragglers, %d slots gone, %d refused, %d dropped", late, gone, refused, dropped)
	}
}

// Cells of any kind, right and not, held against the slow answer.
func TestP15_4_ManyCells(t *testing.T) {
	x := chance(154)
	right, done := 0, 0
	for range 30000 {
		all := x.cell()
		op := nodes()[x.below(len(nodes()))]
		if x.below(3) == 0 {
			op = of(api.KTotal)
		}
		tells(t, all)
		comes(t, all, op.Kind, x.below(4)-1, x.time(1+x.below(2)), x.rec(), x.often())
		if _, _, _, ok := makes(t, all, op, x.time(1+x.below(2)), x.below(2) > 0); ok {
			done++
		}
		drops(t, all, op.Kind, x.lowest()...)
		if cell.Right(all) {
			right++
		}
	}
	if right < 10000 || right > 28000 || done < 2000 {
		t.Errorf("%d were right, %d were made", right, done)
	}
}

// account of an operator: what came to each port, what was given, and that less what was taken back, timestamp by timestamp; nothing of it is asked of package cell.
type account struct {
	came [2]map[api.Time]pile
	held map[api.Time]pile
}

func newAccount() *account {
	return &account{came: [2]map[api.Time]pile{{}, {}}, held: map[api.Time]pile{}}
}

// put into one of an account's piles.
func put(m map[api.Time]pile, u api.Time, b []api.Item, more int) {
	if m[u] == nil {
		m[u] = pile{}
	}
	m[u].all(b, more)
}

// wants: what the operator makes of what came, at a timestamp.
func (a *account) wants(op api.Node, u api.Time) []api.Item {
	second := a.came[1][u].bag(-often)
	if op.Kind == api.KTotal {
		all := pile{}
		for v, p := range a.came[0] {
			if upTo(v, u) {
				all.all(p.bag(-often), 1)
			}
		}
		second = all.bag(-often)
	}
	want, _ := ops.Apply(op, [][]api.Item{a.came[0][u].bag(-often), second})
	return want
}

// settled says so if, once no slot is stale, not all that was sent is what the operator makes, or what was given isn't that.
func (a *account) settled(t *testing.T, op api.Node, all []api.Slot) {
	t.Helper()
	if !cell.Right(all) || len(cell.Stale(all)) > 0 {
		t.Fatalf("%v: %s", op, brief(all))
	}
	for _, m := range []map[api.Time]pile{a.came[0], a.came[1], a.held} {
		for u := range maps.Keys(m) {
			want := a.wants(op, u)
			s, there := cell.At(all, u)
			if !slices.Equal(s.Sent, want) {
				t.Fatalf("%v at %v: %s, not %v", op, u, brief(all), want)
			}
			if held := a.held[u].bag(-often); !slices.Equal(held, want) {
				t.Fatalf("%v at %v: given were %v, not %v", op, u, held, want)
			}
			if came := [2][]api.Item{a.came[0][u].bag(-often), a.came[1][u].bag(-often)}; !slices.Equal(s.In[0], came[0]) || !slices.Equal(s.In[1], came[1]) || there != (len(came[0])+len(came[1]) > 0) {
				t.Fatalf("%v at %v: %s, not %v", op, u, brief(all), came)
			}
		}
	}
}

// make a slot, and put what was given and taken back into the account; of what was not given nothing is taken back.
func (a *account) make(t *testing.T, all []api.Slot, op api.Node, u api.Time, lazy bool) []api.Slot {
	t.Helper()
	got, taken, given, ok := cell.Make(all, op, u, lazy)
	if !ok {
		t.Fatalf("%v isn't made at %v: %s", op, u, brief(all))
	}
	put(a.held, u, taken, -1)
	for x, many := range a.held[u] {
		if many < 0 {
			t.Fatalf("%v: %v was taken back at %v, which wasn't given", op, x, u)
		}
	}
	put(a.held, u, given, 1)
	return got
}

// settle makes all stale slots, in any order, and says so if they aren't settled then.
func (a *account) settle(t *testing.T, all []api.Slot, op api.Node, x *chance) []api.Slot {
	t.Helper()
	for range len(all) {
		if dirty := cell.Stale(all); len(dirty) > 0 {
			all = a.make(t, all, op, dirty[x.below(len(dirty))], x.below(2) > 0)
		}
	}
	a.settled(t, op, all)
	return all
}

// Whatever comes, in whatever order, and whenever slots are made, lazily or not: once none is stale, what was sent is what the operator makes of what came, and what was given, less what was taken back, is that.
func TestP15_4_WhatIsSentInTheEnd(t *testing.T) {
	x := chance(1540)
	for round := range 60 {
		for _, op := range nodes() {
			var all []api.Slot
			a := newAccount()
			depth, often := 1+round%3, 1+x.below(6)
			for part := range 3 {
				for range 10 + 10*part {
					if dirty := cell.Stale(all); len(dirty) > 0 && x.below(often) == 0 {
						all = a.make(t, all, op, dirty[x.below(len(dirty))], x.below(2) > 0)
						continue
					}
					port, u, rec, many := x.below(2), x.time(depth), x.rec(), 1+x.below(2)
					if x.below(3) == 0 {
						many = -many
					}
					got, _, ok := cell.Come(all, op.Kind, port, u, rec, many)
					if !ok {
						t.Fatalf("Come(%s, %d, %d, %v, %v, %d) is refused", brief(all), op.Kind, port, u, rec, many)
					}
					all = got
					put(a.came[port], u, []api.Item{{Rec: rec, N: many}}, 1)
				}
				all = a.settle(t, all, op, &x)
			}
		}
	}
}

// What came is taken back again, all of it: nothing is left, and all that was given was taken back.
func TestP15_4_NothingIsLeft(t *testing.T) {
	x := chance(15400)
	for range 60 {
		for _, op := range nodes() {
			var all []api.Slot
			a := newAccount()
			type coming struct {
				port int
				u    api.Time
				rec  api.Rec
				many int
			}
			var l []coming
			for range 12 {
				y := coming{x.below(2), x.time(2), x.rec(), []int{1, 2, -1, 1 << 10}[x.below(4)]}
				l = append(l, y)
				y.many = -y.many
				l = append(l, y)
			}
			for len(l) > 0 {
				i := x.below(len(l))
				y := l[i]
				l = slices.Delete(l, i, i+1)
				all, _, _ = cell.Come(all, op.Kind, y.port, y.u, y.rec, y.many)
				put(a.came[y.port], y.u, []api.Item{{Rec: y.rec, N: y.many}}, 1)
				if dirty := cell.Stale(all); len(dirty) > 0 && x.below(2) == 0 {
					if got, _, _, ok := cell.Make(all, op, dirty[0], false); ok || !same(got, all) {
						all = a.make(t, all, op, dirty[0], x.below(2) > 0)
					}
				}
			}
			if all = a.settle(t, all, op, &x); len(all) > 0 {
				t.Fatalf("%v: %s is left", op, brief(all))
			}
		}
	}
}

// The same comings in all orders, with slots made in between or not, make the same cell in the end.
func TestP15_4_AnyOrder(t *testing.T) {
	type coming struct {
		port int
		u    api.Time
		x    api.Item
	}
	few := []coming{{0, at(0, 1), n(2, 1, 5)}, {0, at(1, 0), n(1, 1, 7)}, {0, at(0, 1), n(-1, 1, 5)}, {1, at(1, 1), n(1, 1, 2)}, {0, at(1, 1), n(1, 1, 1)}}
	for _, op := range []api.Node{of(api.KSum), of(api.KTotal), of(api.KJoin), of(api.KConcat), of(api.KDistinct), by(api.KShift, 1)} {
		var want []api.Slot
		orders := 0
		var grow func(all []api.Slot, left []coming)
		finish := func(all []api.Slot) {
			for range len(all) {
				if u, ok := cell.Next(all); ok {
					all, _, _, _ = cell.Make(all, op, u, orders%2 > 0)
				}
			}
			if orders == 0 {
				want = all
			}
			if orders++; !same(all, want) {
				t.Fatalf("%v: %s, not %s", op, brief(all), brief(want))
			}
		}
		grow = func(all []api.Slot, left []coming) {
			if len(left) == 0 {
				finish(all)
			}
			for i, y := range left {
				next, _, _ := cell.Come(all, op.Kind, y.port, y.u, y.x.Rec, y.x.N)
				rest := slices.Delete(slices.Clone(left), i, i+1)
				grow(next, rest)
				if u, ok := cell.Next(next); ok {
					now, _, _, _ := cell.Make(next, op, u, i%2 > 0)
					grow(now, rest)
				}
			}
		}
		grow(nil, few)
		if orders < 120*4 {
			t.Errorf("%d orders", orders)
		}
	}
}

// A slot for which there is no room waits, stale, till what is too much was taken back.
func TestP15_4_NoRoomForAWhile(t *testing.T) {
	for _, lazy := range []bool{false, true} {
		op := of(api.KJoin)
		a := newAccount()
		var all []api.Slot
		come := func(port int, rec api.Rec, many int) {
			t.Helper()
			got, _, ok := cell.Come(all, op.Kind, port, at(3), rec, many)
			if !ok {
				t.Fatalf("%v doesn't come", rec)
			}
			all = got
			put(a.came[port], at(3), []api.Item{{Rec: rec, N: many}}, 1)
		}
		come(0, r(1, 1), 2)
		come(1, r(1, 1), 3)
		all = a.make(t, all, op, at(3), lazy)
		a.settled(t, op, all)
		come(0, r(1, 2), 1<<16)
		if got, _, _, ok := makes(t, all, op, at(3), lazy); ok || !same(got, all) {
			t.Fatalf("%s", brief(got))
		}
		come(1, r(2, 2), 1)
		if s, _ := cell.At(all, at(3)); !s.Dirty || !slices.Equal(s.Sent, l(n(6, 1, 2))) {
			t.Fatalf("%s", brief(all))
		}
		come(0, r(1, 2), -1<<16+4)
		all = a.make(t, all, op, at(3), lazy)
		a.settled(t, op, all)
	}
}
