package unit_test

import (
	"math"
	"slices"
	"testing"

	"backwash/api"
	"backwash/unit"
	"backwash/valid"
)

// The stale slots of all operators but the sinks, by their timestamps, of one timestamp by their operators.
func TestP16_2_Points(t *testing.T) {
	g := kinds()
	u := unit.New(g, 0)
	points := func(want ...api.Point) {
		t.Helper()
		if tells(t, g, u); !slices.Equal(unit.Points(g, u), want) {
			t.Fatalf("Points(%s) = %v, not %v", brief(u), unit.Points(g, u), want)
		}
	}
	points()
	put := func(edge int, c ...int) { u, _ = comes(t, g, u, once(edge, at(c...), 2, 2)) }
	put(3, 1)  // to 2
	put(6, 1)  // to 5
	put(1, 1)  // to 1
	put(13, 1) // to 13, of another depth than it takes
	points(p(1, at(1)), p(2, at(1)), p(5, at(1)), p(13, at(1)))
	put(13, 1, 0)
	put(14, 0, 2)
	put(15, 1, 0) // to 14
	put(3, 0)
	put(2, 7) // to 7
	put(3, 2)
	u, _ = feeds(t, g, u, fed(4, 1, r(1, 1)))
	u, _ = feeds(t, g, u, fed(0, 7, r(1, 1)))
	all := l(p(2, at(0)), p(13, at(0, 2)), p(1, at(1)), p(2, at(1)), p(4, at(1)), p(5, at(1)), p(13, at(1)), p(13, at(1, 0)), p(14, at(1, 0)), p(2, at(2)), p(0, at(7)), p(7, at(7)))
	points(all...)
	// What came to the sinks is no point, ahead of the others, at their timestamps, and behind.
	for _, edge := range l(0, 19, 20) {
		for _, epoch := range l(0, 1, 7, 8) {
			put(edge, epoch)
			points(all...)
		}
	}
	// What is made is a point no more, till something comes.
	for len(all) > 0 {
		i := len(all) * 5 / 7
		u, _, _ = makes(t, g, u, all[i], true, 1)
		if all[i].Node == 14 {
			put(15, 1, 0)
			points(all...)
			u, _, _ = makes(t, g, u, all[i], true, 1)
		}
		all = slices.Delete(all, i, i+1)
		points(all...)
	}
}

// Of a worker of any kind, and one whose slots are all stale.
func TestP16_2_PointsOfBusyWorkers(t *testing.T) {
	for _, g := range graphs() {
		u := busy(g)
		tells(t, g, u)
		many := 0
		for node, x := range g.Nodes {
			u.Cells[node] = slices.Clone(u.Cells[node])
			for i := range u.Cells[node] {
				u.Cells[node][i].Dirty = true
			}
			if x.Kind != api.KSink {
				many += len(u.Cells[node])
			}
		}
		if tells(t, g, u); len(unit.Points(g, u)) != many {
			t.Errorf("%d points, not %d", len(unit.Points(g, u)), many)
		}
	}
}

// One KShift, workers 2, a record of key 3 along an exchange: a letter to worker 1.
func TestP16_2_Example(t *testing.T) {
	g := line(by(0, api.KShift, 1))
	u, ok := comes(t, g, unit.New(g, 0), once(0, at(4), 3, 5))
	got, letters, done := makes(t, g, u, p(1, at(4)), true, 2)
	want := l(letter(1, once(1, at(4), 3, 6)))
	u.Cells = with(u.Cells, 1, l(made(at(4), saw(n(1, 3, 5)), n(1, 3, 6))))
	u.Sent, u.Red = [2]int{1, 0}, with(u.Red, 1, l(at(4)))
	if !ok || !done || !slices.Equal(letters, want) || !same(got, u) {
		t.Errorf("%s, %v", brief(got), letters)
	}
}

// Input, KSum, sink; fed (1 2), made, moved, made: (1 2) is on its way to the sink; fed (1 3): the sum takes (1 2) back and sends (1 5).
func TestP16_2_ExampleOfTheWhole(t *testing.T) {
	g := line(of(0, api.KSum))
	for _, lazy := range []bool{false, true} {
		u := unit.New(g, 0)
		step := func(x api.Rec, node int, want ...api.Msg) {
			t.Helper()
			if node == 0 {
				u, _ = feeds(t, g, u, fed(0, 0, x))
			}
			next, letters, ok := makes(t, g, u, p(node, at(0)), lazy, 1)
			if !ok || len(letters) != len(want) {
				t.Fatalf("%s, %v", brief(next), letters)
			}
			for i, m := range want {
				if letters[i] != letter(0, m) {
					t.Fatalf("%v, not %v", letters, want)
				}
				next, _ = comes(t, g, next, m)
			}
			u = next
		}
		back := once(1, at(0), 1, 2)
		back.N = -1
		step(r(1, 2), 0, once(0, at(0), 1, 2))
		step(r(1, 2), 1, once(1, at(0), 1, 2))
		if lazy {
			step(r(1, 3), 0, once(0, at(0), 1, 3))
		} else {
			gone := back
			gone.Edge = 0
			step(r(1, 3), 0, gone, once(0, at(0), 1, 2), once(0, at(0), 1, 3))
		}
		step(r(1, 3), 1, back, once(1, at(0), 1, 5))
		if late, backs := 2, 1; u.Late != late || lazy && u.Backs != backs || !slices.Equal(u.Cells[2][0].In[0], l(n(1, 1, 5))) {
			t.Errorf("%s", brief(u))
		}
	}
}

// Of an operator with four edges, which lie apart: edge by edge, of each what is taken back, then what is given, each item once, along an exchange to its worker and else to itself.
func TestP16_2_LettersInOrder(t *testing.T) {
	g := kinds()
	const node = 5
	in := [2][]api.Item{l(n(2, -1, 4), n(3, 1, 1), n(1, 2, 2)), l(n(1, 1, 1), n(4, 4, 4))}
	was := l(n(5, -1, 4), n(4, 1, 1), n(7, 3, 9))
	is := l(n(2, -1, 4), n(4, 1, 1), n(1, 2, 2), n(4, 4, 4))
	for _, lazy := range []bool{false, true} {
		changes := l(n(-5, -1, 4), n(-4, 1, 1), n(-7, 3, 9), n(2, -1, 4), n(4, 1, 1), n(1, 2, 2), n(4, 4, 4))
		if lazy {
			changes = l(n(-3, -1, 4), n(-7, 3, 9), n(1, 2, 2), n(4, 4, 4))
		}
		for _, id := range l(0, 2, 5, 77, -1) {
			for colour := range 2 {
				u := unit.New(g, id)
				u.Colour, u.Sent, u.Got, u.Backs, u.Late = colour, [2]int{100, 200}, [2]int{3, 4}, 50, 60
				u.Cells[node] = l(again(at(3), in, was...))
				var want []api.Letter
				for _, edge := range l(0, 2, 7, 18) {
					for _, x := range changes {
						to := int(x.Rec.K+3) % 3
						if edge == 0 {
							to = id
						}
						want = append(want, letter(to, api.Msg{Edge: edge, Time: at(3), Rec: x.Rec, N: x.N, Colour: colour}))
					}
				}
				got, letters, ok := makes(t, g, u, p(node, at(3)), lazy, 3)
				if !ok || !slices.Equal(letters, want) {
					t.Fatalf("%v, %t, not %v", letters, ok, want)
				}
				u.Cells = with(u.Cells, node, l(made(at(3), in, is...)))
				u.Red = with(u.Red, node, l(at(3)))
				u.Sent[colour] += len(want)
				if u.Backs += 4 * 3; lazy {
					u.Backs -= 4
				}
				if !same(got, u) {
					t.Fatalf("%s, not %s", brief(got), brief(u))
				}
			}
		}
	}
}

// At each operator of each graph, lazily or not, with any number of workers: what the slow one says.
func TestP16_2_MakeAtEachOperator(t *testing.T) {
	for _, g := range graphs() {
		for _, u := range l(busy(g), turns(t, g, busy(g))) {
			for node, all := range u.Cells {
				for _, s := range all {
					for _, workers := range l(1, 2, 3, 64) {
						for _, lazy := range []bool{false, true} {
							got, letters, ok := makes(t, g, u, p(node, s.Time), lazy, workers)
							tells(t, g, got)
							if want := s.Dirty && g.Nodes[node].Kind != api.KSink; ok != want || !ok && len(letters) > 0 {
								t.Fatalf("Make(%s, %d, %v): %t", brief(u), node, dots(s.Time), ok)
							}
						}
					}
				}
			}
		}
	}
}

// Where nothing has changed nothing is sent, and no timestamp put into Red.
func TestP16_2_NothingHasChanged(t *testing.T) {
	g := line(of(0, api.KDistinct))
	for _, lazy := range []bool{false, true} {
		u := unit.New(g, 0)
		u.Cells[1] = l(again(at(2), saw(n(4, 1, 1)), n(1, 1, 1)), again(at(3), saw(n(-1, 1, 1))), stale(at(4), n(-2, 5, 5)))
		for _, x := range l(at(2), at(3), at(4)) {
			got, letters, ok := makes(t, g, u, p(1, x), lazy, 2)
			if !ok || len(letters) > 0 || got.Sent != [2]int{} || got.Backs != 0 || len(got.Red[1]) > 0 {
				t.Fatalf("%s, %v, %t", brief(got), letters, ok)
			}
			u = got
		}
		// Of an operator without an edge nothing is sent, either.
		h := kinds()
		u = unit.New(h, 0)
		u.Cells[7] = l(stale(at(0), n(1, 1, 1)))
		got, letters, ok := makes(t, h, u, p(7, at(0)), lazy, 2)
		if !ok || len(letters) > 0 || len(got.Red[7]) > 0 || !slices.Equal(got.Cells[7][0].Sent, l(n(1, 1, 1))) {
			t.Fatalf("%s, %v, %t", brief(got), letters, ok)
		}
	}
}

// What is lost is sent along no edge: of a KBack in its last round, and of what came at timestamps of another depth. It is made nevertheless.
func TestP16_2_WhatIsLost(t *testing.T) {
	g := kinds()
	lost := func(node int, x api.Time, want bool) {
		t.Helper()
		for _, lazy := range []bool{false, true} {
			u := unit.New(g, 0)
			u.Cells[node] = l(again(x, saw(n(1, 1, 2)), n(2, 3, 3)))
			got, letters, ok := makes(t, g, u, p(node, x), lazy, 2)
			if !ok || len(letters) == 0 != want || got.Sent[0] != len(letters) || (len(got.Red[node]) == 0) != want || len(unit.Points(g, got)) > 0 {
				t.Fatalf("Make(%s, %d, %v) = %s, %v, %t", brief(u), node, dots(x), brief(got), letters, ok)
			}
			if s := got.Cells[node][0]; s.Dirty || !s.Fired || slices.Equal(s.Sent, l(n(2, 3, 3))) || len(s.Sent) == 0 {
				t.Fatalf("%s", brief(got))
			}
		}
	}
	for i := range 65 {
		lost(15, at(9, i), i >= 2)
		lost(14, at(9, i), false)
		lost(16, at(9, i), false)
	}
	for node, x := range g.Nodes {
		if x.Kind == api.KSink || node == 7 || node == 8 || x.Kind == api.KJoin {
			continue
		}
		for d := range 4 {
			lost(node, api.Time{D: d + 1}, d+1 != valid.Takes(g, node))
		}
	}
}

// Workers from 1 to MaxWorkers may be, and no others.
func TestP16_2_HowManyWorkers(t *testing.T) {
	g := line(by(0, api.KShift, 0))
	u := unit.New(g, 0)
	u.Cells[1] = l(stale(at(0), n(1, -65, 1), n(1, -1, 1), n(1, 0, 1), n(1, 63, 1), n(1, 64, 1), n(1, 1<<40+5, 1)))
	u.Cells[1][0].In[0] = append(l(n(1, math.MinInt64, 1)), append(u.Cells[1][0].In[0], n(1, math.MaxInt64, 1))...)
	for workers := -3; workers < 70; workers++ {
		got, letters, ok := makes(t, g, u, p(1, at(0)), true, workers)
		may := 1 <= workers && workers <= 64
		if ok != may || len(letters) != 8 && may || !may && (len(letters) > 0 || !same(got, u)) {
			t.Fatalf("of %d workers: %v, %t", workers, letters, ok)
		}
		for _, x := range letters {
			if x.To < 0 || x.To >= workers {
				t.Fatalf("of %d workers: %v", workers, letters)
			}
		}
	}
	for _, workers := range l(math.MaxInt, math.MinInt, 1<<32+1, 128) {
		if got, letters, ok := makes(t, g, u, p(1, at(0)), true, workers); ok || len(letters) > 0 || !same(got, u) {
			t.Fatalf("of %d workers: %v, %t", workers, letters, ok)
		}
	}
}

// What is no point is not made: a sink's slot, one that stands, one that isn't there, no operator's; nor one for which there is no room.
func TestP16_2_WhatIsNotMade(t *testing.T) {
	for _, g := range graphs() {
		u := busy(g)
		refused := func(x api.Point) {
			t.Helper()
			for _, lazy := range []bool{false, true} {
				if got, letters, ok := makes(t, g, u, x, lazy, 2); ok || letters != nil || !same(got, u) {
					t.Fatalf("Make(%s, %v) = %s, %v, %t", brief(u), x, brief(got), letters, ok)
				}
			}
		}
		for _, node := range l(-1, -2, len(g.Nodes), len(g.Nodes)+1, 64, math.MaxInt, math.MinInt) {
			refused(p(node, at(0)))
			refused(p(node, at(1, 0)))
		}
		for node := range g.Nodes {
			for _, x := range append(wrongTimes(), first(g, node), at(7), at(1, 1), at(topEpoch), at(1, 0, 0, 0)) {
				refused(p(node, x))
			}
			u.Cells[node] = append(slices.Clone(u.Cells[node]), stale(at(9), n(1<<16, 1, 1), n(1, 1, 3)))
			switch g.Nodes[node].Kind {
			case api.KSink:
				for _, s := range u.Cells[node] {
					refused(p(node, s.Time))
				}
			case api.KInput, api.KShift, api.KConcat, api.KInspect, api.KProg, api.KEnter, api.KLeave, api.KBack:
				refused(p(node, at(9)))
			}
		}
	}
}

// Of each operator Red has the lowest timestamps of which it has sent since it turned.
func TestP16_2_Red(t *testing.T) {
	g := kinds()
	u := unit.New(g, 0)
	do := func(x api.Point, edge int, want ...api.Time) {
		t.Helper()
		u, _ = comes(t, g, u, once(edge, x.Time, 1, 1))
		was := u.Red
		u, _, _ = makes(t, g, u, x, true, 1)
		if !slices.Equal(u.Red[x.Node], want) {
			t.Fatalf("%s", brief(u))
		}
		for node, low := range u.Red {
			if node != x.Node && !slices.Equal(low, was[node]) {
				t.Fatalf("%s", brief(u))
			}
		}
	}
	do(p(14, at(2, 2)), 15, at(2, 2))
	do(p(14, at(2, 3)), 15, at(2, 2))
	do(p(14, at(1, 4)), 15, at(1, 4), at(2, 2))
	do(p(13, at(5, 5)), 13, at(5, 5))
	do(p(14, at(3, 1)), 15, at(1, 4), at(2, 2), at(3, 1))
	do(p(14, at(2, 2)), 15, at(1, 4), at(2, 2), at(3, 1))
	do(p(14, at(2, 1)), 15, at(1, 4), at(2, 1))
	do(p(14, at(0, 5)), 15, at(0, 5), at(1, 4), at(2, 1))
	do(p(2, at(3)), 3, at(3))
	u = turns(t, g, u)
	if u.Colour != 1 || u.Sent[0] == 0 || u.Sent[1] != 0 {
		t.Fatalf("%s", brief(u))
	}
	for _, low := range u.Red {
		if len(low) > 0 {
			t.Fatalf("%s", brief(u))
		}
	}
	// From here on it is counted in the other colour.
	sent := u.Sent
	do(p(14, at(2, 3)), 15, at(2, 3))
	if u.Sent[0] != sent[0] || u.Sent[1] != 2 {
		t.Fatalf("%s", brief(u))
	}
}

// Turned, a worker has the other colour, and has sent of no timestamps; all else is as it was. Turned twice, its colour is as it was, too.
func TestP16_2_Turn(t *testing.T) {
	for _, g := range graphs() {
		u := busy(g)
		got := turns(t, g, u)
		want := busy(g)
		want.Colour, want.Red = 0, make([][]api.Time, len(g.Nodes))
		if tells(t, g, got); !same(got, want) {
			t.Fatalf("%s", brief(got))
		}
		got, want.Colour = turns(t, g, got), 1
		if !same(got, want) {
			t.Fatalf("%s", brief(got))
		}
	}
}

// times are timestamps of a depth, with the counters near to both ends and to bounds.
func times(depth int) []api.Time {
	all := l(at(0), at(1), at(5), at(topEpoch))
	for len(all) > 0 && all[0].D < depth {
		var more []api.Time
		for _, x := range all {
			for _, counter := range l(0, 1, 2, 3, 62, 63, 64) {
				y := x
				y.C[y.D] = counter
				y.D++
				more = append(more, y)
			}
		}
		all = more
	}
	return all
}

// Of each kind, at timestamps of each depth.
func TestP16_2_Gives(t *testing.T) {
	for _, g := range graphs() {
		for node, x := range g.Nodes {
			for depth := 1; depth <= 4; depth++ {
				for _, u := range times(depth) {
					got, ok := unit.Gives(g, node, u)
					want, wanted := slowGives(g, node, u)
					if got != want || ok != wanted {
						t.Fatalf("Gives(%d, %v) = %v, %t, not %v, %t", node, u, got, ok, want, wanted)
					}
					if depth != valid.Takes(g, node) && ok || ok && got.D != valid.Gives(g, node) || depth == valid.Takes(g, node) && x.Kind != api.KBack && !ok {
						t.Fatalf("Gives(%d, %v) = %v, %t", node, u, got, ok)
					}
				}
			}
		}
	}
}

// By hand, of each kind one.
func TestP16_2_GivesByHand(t *testing.T) {
	g, lost := kinds(), api.Time{}
	gives := func(node int, u, want api.Time) {
		t.Helper()
		if got, ok := unit.Gives(g, node, u); got != want || ok != (want != lost) {
			t.Errorf("Gives(%d, %v) = %v, %t", node, u, got, ok)
		}
	}
	for _, node := range l(0, 1, 2, 3, 4, 5, 6, 7, 8, 9, 10, 11, 17, 18, 19) {
		gives(node, at(0), at(0))
		gives(node, at(6), at(6))
		gives(node, at(topEpoch), at(topEpoch))
		gives(node, at(6, 0), lost)
	}
	for _, node := range l(13, 14) {
		gives(node, at(6, 0), at(6, 0))
		gives(node, at(6, 64), at(6, 64))
		gives(node, at(6), lost)
		gives(node, at(6, 0, 0), lost)
	}
	gives(12, at(6), at(6, 0))
	gives(12, at(topEpoch), at(topEpoch, 0))
	gives(12, at(6, 0), lost)
	gives(16, at(6, 0), at(6))
	gives(16, at(6, 64), at(6))
	gives(16, at(6), lost)
	gives(15, at(6, 0), at(6, 1))
	gives(15, at(6, 1), at(6, 2))
	gives(15, at(6, 2), lost)
	gives(15, at(6, 3), lost)
	gives(15, at(6, 64), lost)
	gives(15, at(6), lost)
	gives(15, at(6, 0, 0), lost)
	g = deep()
	gives(10, at(1, 9, 62), at(1, 9, 63))
	gives(10, at(1, 9, 63), lost)
	gives(10, at(1, 9, 64), lost)
	gives(5, at(1, 2, 3), at(1, 2, 3, 0))
	gives(5, at(1, 2, 3, 0), lost)
	gives(9, at(1, 2, 3, 4), at(1, 2, 3))
	gives(8, at(1, 2, 3, 1), at(1, 2, 3, 2))
	gives(8, at(1, 2, 3, 2), lost)
	gives(12, at(1, 0), at(1, 1))
	gives(12, at(1, 1), lost)
}

// At timestamps that aren't right, and of no operator.
func TestP16_2_GivesNothing(t *testing.T) {
	for _, g := range graphs() {
		nothing := func(node int, u api.Time) {
			t.Helper()
			if got, ok := unit.Gives(g, node, u); ok || got != (api.Time{}) {
				t.Errorf("Gives(%d, %v) = %v, %t", node, u, got, ok)
			}
		}
		for node := range g.Nodes {
			for _, u := range wrongTimes() {
				nothing(node, u)
				u.D = valid.Takes(g, node)
				if !slowTime(u) {
					nothing(node, u)
				}
			}
		}
		for _, node := range l(-1, -2, len(g.Nodes), len(g.Nodes)+1, math.MaxInt, math.MinInt) {
			for depth := 1; depth <= 4; depth++ {
				nothing(node, api.Time{D: depth})
			}
			nothing(node, api.Time{})
		}
	}
}
