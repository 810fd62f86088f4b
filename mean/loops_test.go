package mean_test

import (
	"testing"

	"backwash/api"
)

// A loop that ends at its bound: what would be given then is lost, and comes along no edge.
func TestP12_1_LoopToItsBound(t *testing.T) {
	for _, bound := range many(1, 2, 3, 4, 63, 64) {
		x := newPlan()
		_, end := x.loop(bound, x.input(), func(from int) int { return x.by(api.KShift, 1, from) })
		s := x.sink(x.leave(end))
		var want []api.Out
		for i := range bound {
			want = append(want, out(s, 2, 7, int64(i)+1))
		}
		means(t, x.Graph, many(fed(0, 2, 7, 0)), 2+5*bound-1, want...)
	}
}

// A loop that ends ahead of its bound, because nothing is left.
func TestP12_1_LoopTillNothingIsLeft(t *testing.T) {
	x := newPlan()
	begin, _ := x.loop(64, x.input(), func(from int) int { return x.does(down(), from) })
	s := x.sink(x.leave(begin))
	for n := range int64(9) {
		var want []api.Out
		for v := range n + 1 {
			want = append(want, out(s, 3, 7, v))
		}
		means(t, x.Graph, many(fed(0, 3, 7, n)), 2+3*int(n+1)+2*int(n), want...)
	}
	// Each of several records goes around as long as something is left of it.
	gives(t, x.Graph, many(fed(0, 3, 7, 2), fed(0, 4, 7, 1), fed(0, 3, 7, 0), fed(0, 3, 8, 1)),
		out(s, 3, 7, 0), out(s, 3, 7, 0), out(s, 3, 7, 1), out(s, 3, 7, 2), out(s, 3, 8, 0), out(s, 3, 8, 1), out(s, 4, 7, 0), out(s, 4, 7, 1))
	// The same with a bound that comes first, and with one that just doesn't.
	for bound := range 6 {
		x := newPlan()
		begin, _ := x.loop(bound+1, x.input(), func(from int) int { return x.does(down(), from) })
		s := x.sink(x.leave(begin))
		gives(t, x.Graph, many(fed(0, 0, 7, 4)), values(s, 0, 7, many[int64](0, 1, 2, 3, 4)[max(0, 4-bound):]...)...)
	}
	x = newPlan()
	begin, _ = x.loop(64, x.input(), func(from int) int { return x.by(api.KKeep, 2, from) })
	s = x.sink(x.leave(begin))
	means(t, x.Graph, many(fed(0, 0, 7, 3)), 5, out(s, 0, 7, 3))
}

// What comes around counts at the next number of the counter alone: it is not summed with what came in, nor made distinct.
func TestP12_1_RoundsStandByThemselves(t *testing.T) {
	x := newPlan()
	begin, _ := x.loop(3, x.input(), func(from int) int { return x.by(api.KShift, 10, from) })
	sums, ones := x.of(api.KSum, begin), x.of(api.KDistinct, begin)
	s := x.sink(x.of(api.KConcat, x.of(api.KLeave, sums), x.leave(ones)))
	means(t, x.Graph, many(fed(0, 0, 1, 1), fed(0, 0, 1, 1)), 2+2+4+6+6+6+6+3+3+3+3+6, values(s, 0, 1, 1, 2, 11, 21, 22, 42)...)
}

// What comes to one port at the counter 0 and to the other one at 1 doesn't meet; what comes to both at 1 does.
func TestP12_1_CountersThatMeetOrNot(t *testing.T) {
	x := newPlan()
	i := x.input()
	x.into(2)
	enter := x.of(api.KEnter, i)
	one, two := x.of(api.KBack, enter), x.of(api.KBack, x.by(api.KShift, 10, enter))
	apart, together := x.of(api.KJoin, enter, one), x.of(api.KJoin, one, two)
	out1, out2 := x.of(api.KLeave, apart), x.leave(together)
	x.sink(out1)
	s := x.sink(out2)
	means(t, x.Graph, many(fed(i, 0, 1, 1)), 10, out(s, 0, 1, 12))
}

// What is given in a round hangs on what was given in earlier ones: each sum is made of that of the round ahead of it.
func TestP12_1_LaterRoundsOfEarlierOnes(t *testing.T) {
	x := newPlan()
	_, end := x.loop(5, x.input(), func(from int) int {
		return x.of(api.KSum, x.of(api.KConcat, from, from))
	})
	s := x.sink(x.leave(end))
	means(t, x.Graph, many(fed(0, 0, 1, 3), fed(0, 0, 2, -1)), 2+2+8+20+20+10+10+10,
		append(values(s, 0, 1, 6, 12, 24, 48, 96), values(s, 0, 2, -32, -16, -8, -4, -2)...)...)
}

// Two ways around one loop, one through a KBack, the other one through two: at the counters 0 to 4 there are 1, 1, 2, 3 and 5 records.
func TestP12_1_TwoWaysAround(t *testing.T) {
	x := newPlan()
	i := x.input()
	x.into(5)
	other := x.of(api.KConcat, later, later)
	begin := x.of(api.KConcat, x.of(api.KEnter, i), other)
	x.lead(x.of(api.KBack, x.by(api.KShift, 1, begin)), other, 0)
	x.lead(x.of(api.KBack, x.of(api.KBack, x.by(api.KShift, 100, begin))), other, 1)
	s := x.sink(x.leave(begin))
	means(t, x.Graph, many(fed(i, 0, 1, 0)), 1+1+11+12+12+7+12+12+7+4+12+12, values(s, 0, 1, 0, 1, 2, 3, 4, 100, 101, 101, 102, 102, 102, 200)...)
}

// All that leaves a loop comes together, at the epoch.
func TestP12_1_AllThatLeaves(t *testing.T) {
	x := newPlan()
	_, end := x.loop(4, x.input(), func(from int) int { return x.by(api.KShift, 1, from) })
	left := x.leave(end)
	s, u, v := x.sink(x.of(api.KSum, left)), x.sink(x.of(api.KCount, left)), x.sink(x.of(api.KJoin, left, 0))
	gives(t, x.Graph, many(fed(0, 0, 1, 10), fed(0, 3, 1, 0)), out(s, 0, 1, 50), out(s, 3, 1, 10), out(u, 0, 1, 4), out(u, 3, 1, 4),
		out(v, 0, 1, 21), out(v, 0, 1, 22), out(v, 0, 1, 23), out(v, 0, 1, 24), out(v, 3, 1, 1), out(v, 3, 1, 2), out(v, 3, 1, 3), out(v, 3, 1, 4))
}

// Several ways into a scope, and several out of it.
func TestP12_1_SeveralEntersAndLeaves(t *testing.T) {
	x := newPlan()
	a, b := x.input(), x.input()
	x.into(2)
	ea, eb := x.of(api.KEnter, a), x.of(api.KEnter, b)
	join := x.of(api.KJoin, ea, eb)
	la, lb, lj := x.of(api.KLeave, ea), x.of(api.KLeave, eb), x.leave(join)
	s := x.sink(x.of(api.KConcat, x.of(api.KConcat, lb, la), lj))
	means(t, x.Graph, many(fed(a, 0, 1, 1), fed(b, 0, 1, 20), fed(b, 0, 2, 0), fed(a, 1, 2, 0)), 4+8+1+2+2+2+2+1+5, out(s, 0, 1, 1), out(s, 0, 1, 20), out(s, 0, 1, 21), out(s, 0, 2, 0), out(s, 1, 2, 0))
}

// nest is loops one in the other, of these bounds; in the innermost one is what a body makes.
func nest(x *plan, bounds []int, from int, body func(from int) int) int {
	if len(bounds) == 0 {
		return body(from)
	}
	_, end := x.loop(bounds[0], from, func(from int) int { return nest(x, bounds[1:], from, body) })
	return x.leave(end)
}

// Each inner loop begins at 0 in each round of the outer one.
func TestP12_1_ScopesWithinScopes(t *testing.T) {
	x := newPlan()
	s := x.sink(nest(x, many(2, 3), x.input(), func(from int) int { return x.by(api.KShift, 1, from) }))
	// In the round 0 what came in leaves as 1, 2, 3; in the round 1 of each of these three leave.
	means(t, x.Graph, many(fed(0, 0, 1, 0)), 1+1+3+4+4+12+12+8+12+12+12+12, values(s, 0, 1, 1, 2, 2, 3, 3, 3, 4, 4, 4, 5, 5, 6)...)
	// What leaves the inner loop in one round of the outer one comes together; what leaves in another round doesn't.
	x = newPlan()
	inner := func(from int) int {
		return x.of(api.KSum, nest(x, many(3), from, func(from int) int { return x.by(api.KShift, 1, from) }))
	}
	s = x.sink(nest(x, many(2), x.input(), inner))
	means(t, x.Graph, many(fed(0, 0, 1, 0)), 1+1+1+2+2+6+6+4+6+6+2+2+2, values(s, 0, 1, 1+2+3, 7+8+9)...)
}

// As deep as may be, and at each depth around as often as may be.
func TestP12_1_DeepScopes(t *testing.T) {
	for i, work := range many(833, 707, 581) {
		bounds := many(1, 1, 1)
		bounds[i] = 64
		x := newPlan()
		s := x.sink(nest(x, bounds, x.input(), func(from int) int { return x.by(api.KShift, 1, from) }))
		var want []api.Out
		for v := range int64(64) {
			want = append(want, out(s, 5, 1, v+1))
		}
		means(t, x.Graph, many(fed(0, 5, 1, 0)), work, want...)
	}
	for _, bounds := range [][]int{{1, 1, 1}, {2, 2, 2}, {1, 2, 3}, {3, 1, 2}, {2, 3, 1}} {
		x := newPlan()
		x.sink(nest(x, bounds, x.input(), func(from int) int { return x.of(api.KCount, x.of(api.KConcat, from, from)) }))
		feeds := many(fed(0, 0, 1, 0), fed(0, 0, 1, 5), fed(0, 4, 2, 2))
		gives(t, x.Graph, feeds, slowly(x.Graph, feeds).outs...)
	}
}

// Around the outermost loop by way of inner scopes that go around no loop of their own.
func TestP12_1_AroundTheOuterLoopAlone(t *testing.T) {
	x := newPlan()
	_, end := x.loop(3, x.input(), func(from int) int {
		x.into(64)
		from = x.of(api.KEnter, from)
		x.into(64)
		return x.leave(x.leave(x.by(api.KShift, 1, x.of(api.KEnter, from))))
	})
	s := x.sink(x.leave(end))
	means(t, x.Graph, many(fed(0, 0, 1, 0)), 1+1+2+3*7+3, values(s, 0, 1, 1, 2, 3)...)
}

// One loop behind the other: what leaves the first one in any round enters the second one at 0.
func TestP12_1_LoopBehindLoop(t *testing.T) {
	x := newPlan()
	from := x.input()
	for range 2 {
		_, end := x.loop(2, from, func(from int) int { return x.of(api.KSum, x.by(api.KShift, 1, from)) })
		from = x.leave(end)
	}
	s := x.sink(from)
	// 1, then 2; 2 + 3, then 6.
	gives(t, x.Graph, many(fed(0, 0, 1, 0)), values(s, 0, 1, 5, 6)...)
}

// What enters once more comes together, at 0, once all has left.
func TestP12_1_OutAndInAgain(t *testing.T) {
	x := newPlan()
	begin, _ := x.loop(3, x.input(), func(from int) int { return x.by(api.KShift, 1, from) })
	enter := x.of(api.KEnter, x.of(api.KLeave, begin))
	s := x.sink(x.leave(x.of(api.KSum, enter)))
	means(t, x.Graph, many(fed(0, 0, 1, 4)), 1+1+2+3+3+3+3+3+1+1, out(s, 0, 1, 4+5+6))
	// And around a loop once more, in the same scope; and within another loop.
	for _, outer := range many(nil, many(2), many(2, 2)) {
		x := newPlan()
		body := func(from int) int {
			begin, _ := x.loop(3, from, func(from int) int { return x.by(api.KShift, 1, from) })
			second := x.of(api.KConcat, x.of(api.KEnter, x.of(api.KLeave, begin)), later)
			sum := x.of(api.KSum, second)
			x.lead(x.of(api.KBack, sum), second, 1)
			return x.leave(sum)
		}
		x.sink(nest(x, outer, x.input(), body))
		feeds := many(fed(0, 0, 1, 4), fed(0, 0, 2, 1), fed(0, 0, 2, 7), fed(0, 1, 1, 0))
		a := slowly(x.Graph, feeds)
		means(t, x.Graph, feeds, a.work, a.outs...)
	}
}

// outside is an input, and a loop around which a way leads out of its scope and into it again, through a body and a KBack; and a sink of what leaves.
func outside(bound int, body func(x *plan, from int) int) (g api.Graph, sink int) {
	x := newPlan()
	i := x.input()
	x.into(bound)
	begin := x.of(api.KConcat, x.of(api.KEnter, i), later)
	left := x.of(api.KLeave, begin)
	x.lead(x.of(api.KBack, body(x, x.of(api.KEnter, left))), begin, 1)
	x.back()
	return x.Graph, x.sink(left)
}

// Around such a loop no time rises, but what comes to each point and what it gives fit one another, where that can be.
func TestP12_1_AroundOutside(t *testing.T) {
	down := func(x *plan, from int) int { return x.does(down(), from) }
	once := func(x *plan, from int) int { return x.of(api.KDistinct, from) }
	same := func(x *plan, from int) int { return x.of(api.KInspect, from) }
	total := func(x *plan, from int) int { return x.of(api.KTotal, from) }
	g, s := outside(2, down)
	means(t, g, many(fed(0, 0, 1, 2)), 1+1+2+3+3+3+2+3, values(s, 0, 1, 0, 1, 2)...)
	means(t, g, many(fed(0, 0, 1, 2), fed(0, 1, 1, 1)), 18+12, append(values(s, 0, 1, 0, 1, 2), values(s, 1, 1, 0, 1)...)...)
	g, s = outside(64, once)
	means(t, g, many(fed(0, 0, 1, 2), fed(0, 0, 1, 2)), 2+2+1+3+3+3+1+3, values(s, 0, 1, 2, 2, 2)...)
	// There is always more.
	for _, body := range many(same, total) {
		g, s = outside(2, body)
		for _, most := range many(0, 1, 10, 1000, 10000) {
			asks(t, g, many(fed(0, 0, 1, 2)), most, nil, api.ErrFull)
		}
		asks(t, g, nil, 0, nil, api.OK)
		// Around once what goes around is lost.
		g, s = outside(1, body)
		means(t, g, many(fed(0, 0, 1, 2)), 7, values(s, 0, 1, 2)...)
	}
}

// What comes bit by bit is held against the room as a whole.
func TestP12_1_NoRoomAroundOutside(t *testing.T) {
	g, s := outside(2, func(x *plan, from int) int { return x.does(down(), from) })
	feeds := times(room/2, fed(0, 0, 1, 1))
	gives(t, g, feeds, append(times(room/2, out(s, 0, 1, 0)), times(room/2, out(s, 0, 1, 1))...)...)
	more := append(feeds, fed(0, 0, 1, 1))
	asks(t, g, more, topWork, nil, api.ErrFull)
	// Without the sink it is what enters again that has no room.
	g.Nodes, g.Edges = g.Nodes[:s], g.Edges[:len(g.Edges)-1]
	means(t, g, feeds, room/2*10)
	asks(t, g, more, topWork, nil, api.ErrFull)
}

// A KTotal that is made ahead of what comes to it at an earlier time is made anew.
func TestP12_1_TotalsMadeAnew(t *testing.T) {
	x := newPlan()
	i := x.input()
	x.into(3)
	other := x.of(api.KConcat, later, later)
	begin := x.of(api.KConcat, x.of(api.KEnter, i), other)
	enter := x.of(api.KEnter, x.of(api.KLeave, begin))
	even := x.by(api.KKeep, 2, enter)
	x.lead(x.of(api.KBack, x.of(api.KBack, x.by(api.KShift, 1, even))), other, 0)
	total := x.of(api.KTotal, x.of(api.KConcat, x.by(api.KKeep, 3, enter), x.of(api.KBack, even)))
	x.lead(x.of(api.KBack, x.does(nil, total)), other, 1)
	s := x.sink(x.leave(total))
	// Of (1 2) comes (1 3) at 2, which enters at 0: there 3 is the total, and behind it at 1 no more 2, but 5.
	feeds, want := many(fed(i, 0, 1, 2)), values(s, 0, 1, 3, 5)
	a := slowly(x.Graph, feeds)
	if !a.settled || len(a.outs) != 2 || a.outs[0] != want[0] || a.outs[1] != want[1] {
		t.Errorf("slowly: %+v", a)
	}
	asks(t, x.Graph, feeds, topWork, want, api.OK)
}
