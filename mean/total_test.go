package mean_test

import (
	"testing"

	"backwash/api"
)

// totals is an input, a KTotal and a sink.
func totals() api.Graph { return alone(api.Node{Kind: api.KTotal}) }

func TestP12_1_TotalsOfEpochs(t *testing.T) {
	feeds := many(fed(0, 4, 1, 100), fed(0, 0, 1, 2), fed(0, 1, 1, 5), fed(0, 1, 1, 5), fed(0, 1, 2, -1), fed(0, topEpoch, 1, -7), fed(0, 4, 3, 0), fed(0, 3, 2, 1), fed(0, 4, 1, 1))
	means(t, totals(), feeds, 9+7,
		out(2, 0, 1, 2), out(2, 1, 1, 12), out(2, 1, 2, -1), out(2, 3, 2, 0), out(2, 4, 1, 113), out(2, 4, 3, 0), out(2, topEpoch, 1, 106))
}

// At an epoch, or a time, at which nothing comes, nothing is given, whatever came up to then.
func TestP12_1_TotalsOfNothing(t *testing.T) {
	x := newPlan()
	a, b := x.input(), x.input()
	total := x.of(api.KTotal, a)
	s := x.sink(x.of(api.KConcat, b, total))
	means(t, x.Graph, many(fed(a, 0, 1, 2), fed(b, 1, 9, 9), fed(a, 2, 2, 3), fed(b, 3, 9, 9)), 2+4+4, out(s, 0, 1, 2), out(s, 1, 9, 9), out(s, 2, 2, 3), out(s, 3, 9, 9))
}

// A sum of all up to now that has no room is an error, which is gone once it has room again.
func TestP12_1_TotalsWithoutRoom(t *testing.T) {
	feeds := many(fed(0, 0, 1, greatest), fed(0, 1, 1, 1), fed(0, 2, 1, 0), fed(0, 3, 1, -5), fed(0, 4, 1, least), fed(0, 5, 1, least), fed(0, 6, 1, greatest))
	gives(t, totals(), feeds, out(2, 0, 1, greatest), out(2, 1, 1, over), out(2, 2, 1, over), out(2, 3, 1, greatest-4), out(2, 4, 1, -5), out(2, 5, 1, over), out(2, 6, 1, -6))
}

// Each KTotal sums by itself what came to it.
func TestP12_1_SeveralTotals(t *testing.T) {
	x := newPlan()
	a := x.input()
	one := x.of(api.KTotal, a)
	two := x.of(api.KTotal, one)
	other := x.of(api.KTotal, x.by(api.KShift, 10, a))
	s, u, v := x.sink(one), x.sink(two), x.sink(other)
	gives(t, x.Graph, many(fed(a, 0, 1, 1), fed(a, 1, 1, 2), fed(a, 1, 1, 2), fed(a, 7, 1, 4)),
		out(s, 0, 1, 1), out(s, 1, 1, 5), out(s, 7, 1, 9), out(u, 0, 1, 1), out(u, 1, 1, 6), out(u, 7, 1, 15), out(v, 0, 1, 11), out(v, 1, 1, 35), out(v, 7, 1, 49))
}

// In a loop the rounds ahead count, of this epoch and of those ahead of it; but none of another epoch's rounds behind this one.
func TestP12_1_TotalsInALoop(t *testing.T) {
	x := newPlan()
	begin, _ := x.loop(3, x.input(), func(from int) int { return x.by(api.KShift, 1, from) })
	s := x.sink(x.leave(x.of(api.KTotal, begin)))
	// The epoch 0 has 10, 11, 12 at its counters, the epoch 1 has 100, 101, 102.
	means(t, x.Graph, many(fed(0, 1, 1, 100), fed(0, 0, 1, 10)), 2+2+4+6+6+6+6+6,
		append(values(s, 0, 1, 10, 21, 33), values(s, 1, 1, 110, 222, 336)...)...)
	// What goes around hangs on the totals: 1, 1, 2, 4 come in the epoch 0, 1, 2, 5, 12 in the other one.
	x = newPlan()
	_, end := x.loop(4, x.input(), func(from int) int { return x.of(api.KTotal, from) })
	s = x.sink(x.leave(end))
	gives(t, x.Graph, many(fed(0, 0, 1, 1), fed(0, 5, 1, 1)), append(values(s, 0, 1, 1, 2, 4, 8), values(s, 5, 1, 2, 5, 12, 28)...)...)
}

// counters is a graph whose KTotal gets what is fed to the one input at the counter 0, what is fed to the other one at the counter 1.
func counters() (g api.Graph, zero, one, sink int) {
	x := newPlan()
	zero, one = x.input(), x.input()
	x.into(2)
	both := x.of(api.KConcat, x.of(api.KEnter, zero), x.of(api.KBack, x.of(api.KEnter, one)))
	sink = x.sink(x.leave(x.of(api.KTotal, both)))
	return x.Graph, zero, one, sink
}

// Of two times that are beside each other neither counts for the other one; what is behind both has both.
func TestP12_1_TotalsBesideEachOther(t *testing.T) {
	g, zero, one, s := counters()
	gives(t, g, many(fed(one, 0, 1, 5), fed(zero, 1, 1, 30)), out(s, 0, 1, 5), out(s, 1, 1, 30))
	gives(t, g, many(fed(zero, 0, 1, 5), fed(one, 1, 1, 30)), out(s, 0, 1, 5), out(s, 1, 1, 35))
	gives(t, g, many(fed(one, 0, 1, 5), fed(zero, 1, 1, 30), fed(one, 1, 1, 100)), out(s, 0, 1, 5), out(s, 1, 1, 30), out(s, 1, 1, 135))
	gives(t, g, many(fed(one, 0, 1, 5), fed(zero, 1, 1, 30), fed(one, 9, 1, 100), fed(zero, 0, 2, 1)), out(s, 0, 1, 5), out(s, 0, 2, 1), out(s, 1, 1, 30), out(s, 9, 1, 135))
	gives(t, g, many(fed(zero, 1, 1, 30), fed(zero, 2, 1, 1), fed(one, 0, 1, 5), fed(one, 2, 1, 0)), out(s, 0, 1, 5), out(s, 1, 1, 30), out(s, 2, 1, 31), out(s, 2, 1, 36))
}

// In loops within loops each counter counts: of times of one epoch, too, some are beside each other.
func TestP12_1_TotalsInDeepLoops(t *testing.T) {
	x := newPlan()
	var total int
	i := x.input()
	begin, _ := x.loop(2, i, func(from int) int {
		begin, _ := x.loop(3, from, func(from int) int { return x.by(api.KShift, 1, from) })
		total = x.of(api.KLeave, x.of(api.KTotal, begin))
		x.leave(begin)
		return x.by(api.KShift, 100, from)
	})
	x.of(api.KLeave, begin)
	s := x.sink(x.leave(total))
	// At 0.0, 0.1, 0.2 come 10, 11, 12, at 1.0, 1.1, 1.2 come 110, 111, 112: at 1.0 the total is 10 + 110, without 11 and 12.
	gives(t, x.Graph, many(fed(i, 0, 1, 10)), values(s, 0, 1, 10, 21, 33, 120, 242, 366)...)
	gives(t, x.Graph, many(fed(i, 0, 1, 10), fed(i, 3, 1, 0)), append(values(s, 0, 1, 10, 21, 33, 120, 242, 366), values(s, 3, 1, 10, 22, 36, 220, 444, 672)...)...)
}

// As deep as may be.
func TestP12_1_TotalsAtDepthFour(t *testing.T) {
	x := newPlan()
	x.sink(nest(x, many(2, 3, 2), x.input(), func(from int) int { return x.by(api.KShift, 1, x.of(api.KTotal, from)) }))
	feeds := many(fed(0, 0, 1, 10), fed(0, 3, 1, 1), fed(0, 3, 2, 5), fed(0, 4, 2, -5))
	gives(t, x.Graph, feeds, slowly(x.Graph, feeds).outs...)
}

// Over a thousand epochs.
func TestP12_1_TotalsOfManyEpochs(t *testing.T) {
	var feeds []api.Feed
	var want []api.Out
	sums := map[int64]int64{}
	for i := range 1200 {
		k, v := int64(i%7), int64(i*i%1000-300)
		sums[k] += v
		feeds = append(feeds, fed(0, i*5, k, v))
		want = append(want, out(2, i*5, k, sums[k]))
	}
	asks(t, totals(), feeds, 2400, want, api.OK)
	asks(t, totals(), feeds, 2399, nil, api.ErrFull)
}
