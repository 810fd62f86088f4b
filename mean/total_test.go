package mean_test

import (
	"math/big"
	"slices"
	"testing"

	"backwash/api"
)

// totals is an input, a KTotal and a sink.
func totals() api.Graph { return alone(api.Node{Kind: api.KTotal}) }

func TestP12_1_TotalsOfEpochs(t *testing.T) {
	feeds := many(fed(0, 4, 1, 100), fed(0, 0, 1, 2), fed(0, 1, 1, 5), fed(0, 1, 1, 5), fed(0, 1, 2, -1), fed(0, topEpoch, 1, -7), fed(0, 4, 3, 0), fed(0, 3, 2, 1), fed(0, 4, 1, 1))
	means(t, totals(), feeds, 9+7,
		out(2, 0, 1, 2), out(2, 1, 1, 12), out(2, 1, 2, -1), out(2, 3, 2, 0), out(2, 4, 1, 113), out(2, 4, 3, 0), out(2, topEpoch, 1, 106))
}

// At an epoch, or a time, at which nothing comes, nothing is given, whatever came up to then.
func TestP12_1_TotalsOfNothing(t *testing.T) {
	x := newPlan()
	a, b := x.input(), x.input()
	total := x.of(api.KTotal, a)
	s := x.sink(x.of(api.KConcat, b, total))
	means(t, x.Graph, many(fed(a, 0, 1, 2), fed(b, 1, 9, 9), fed(a, 2, 2, 3), fed(b, 3, 9, 9)), 2+4+4, out(s, 0, 1, 2), out(s, 1, 9, 9), out(s, 2, 2, 3), out(s, 3, 9, 9))
}

// A sum of all up to now that has no room is an error, which is gone once it has room again.
func TestP12_1_TotalsWithoutRoom(t *testing.T) {
	feeds := many(fed(0, 0, 1, greatest), fed(0, 1, 1, 1), fed(0, 2, 1, 0), fed(0, 3, 1, -5), fed(0, 4, 1, least), fed(0, 5, 1, least), fed(0, 6, 1, greatest))
	gives(t, totals(), feeds, out(2, 0, 1, greatest), out(2, 1, 1, over), out(2, 2, 1, over), out(2, 3, 1, greatest-4), out(2, 4, 1, -5), out(2, 5, 1, over), out(2, 6, 1, -6))
}

// Sums of all sizes, on both sides of each end, to which many copies of one value come, or but one.
func TestP12_1_TotalsOfAllSizes(t *testing.T) {
	values := many[int64](least, least+1, -1<<62-1, -1<<62, -1<<62+1, -1<<32-1, -1<<32, -1<<31, -1, 0, 1, 1<<31, 1<<32-1, 1<<32, 1<<62-1, 1<<62, 1<<62+1, greatest-1, greatest)
	c := chance(41)
	errors := 0
	for range 200 {
		var feeds []api.Feed
		var want []api.Out
		sum := new(big.Int)
		for epoch := range 1 + c.below(40) {
			v, n := values[c.below(len(values))], 1+c.below(4)*c.below(4)
			if c.below(3) == 0 && sum.IsInt64() && sum.Int64() != least {
				v, n = -sum.Int64(), 1
			}
			feeds = append(feeds, times(n, fed(0, epoch, 1, v))...)
			sum.Add(sum, new(big.Int).Mul(big.NewInt(v), big.NewInt(int64(n))))
			o := out(2, epoch, 1, over)
			if sum.IsInt64() {
				o.Rec.V = sum.Int64()
			} else {
				errors++
			}
			want = append(want, o)
		}
		asks(t, totals(), feeds, topWork, want, api.OK)
	}
	if errors < 500 {
		t.Errorf("%d errors", errors)
	}
	// As many as may be, as far as may be from 0, and back.
	for _, v := range many[int64](least, greatest) {
		var feeds []api.Feed
		var want []api.Out
		for epoch := range 8 {
			feeds = append(feeds, times(room, fed(0, epoch, 1, v))...)
			want = append(want, out(2, epoch, 1, over))
		}
		asks(t, totals(), feeds, topWork, want, api.OK)
		for epoch := range 7 {
			feeds = append(feeds, times(room, fed(0, 8+epoch, 1, -(v+1)))...)
			want = append(want, out(2, 8+epoch, 1, over))
		}
		asks(t, totals(), feeds, topWork, want, api.OK)
		// There is one too many of each: what is left of least is -1 of each pair, of greatest -1 too.
		left := append(times(room, fed(0, 0, 1, v)), times(room, fed(0, 1, 1, -(v+1)))...)
		asks(t, totals(), left, topWork, many(out(2, 0, 1, over), out(2, 1, 1, -room)), api.OK)
	}
}

// At each number of a counter up to the greatest, alone and with all ahead of it.
func TestP12_1_TotalsOfAllCounters(t *testing.T) {
	x := newPlan()
	begin, _ := x.loop(64, x.input(), func(from int) int { return x.by(api.KShift, 1, from) })
	s := x.sink(x.leave(x.of(api.KTotal, begin)))
	var want []api.Out
	for _, epoch := range many(0, 7) {
		sum := int64(0)
		for i := range int64(64) {
			sum += 1000 + i
			if epoch == 7 {
				sum += 5000 + i
			}
			want = append(want, out(s, epoch, 1, sum))
		}
	}
	asks(t, x.Graph, many(fed(0, 0, 1, 1000), fed(0, 7, 1, 5000)), topWork, want, api.OK)
}

// At each round of loops within loops comes 1: the total there is how many rounds are at or before it by each counter, the product of these numbers.
func TestP12_1_TotalsOfAllRounds(t *testing.T) {
	for _, bounds := range [][]int{{64}, {64, 64}, {1, 64}, {5, 7, 11}, {16, 16, 16}, {64, 3, 64}} {
		x := newPlan()
		from := x.input()
		products := many[int64](1)
		for _, bound := range bounds {
			x.into(bound)
			begin := x.of(api.KConcat, x.of(api.KEnter, from), later)
			x.lead(x.of(api.KBack, begin), begin, 1)
			from = begin
			var more []int64
			for _, p := range products {
				for i := range bound {
					more = append(more, p*int64(i+1))
				}
			}
			products = more
		}
		total := x.of(api.KTotal, from)
		for range bounds {
			total = x.leave(total)
		}
		s := x.sink(total)
		slices.Sort(products)
		want := values(s, 3, 1, products...)
		asks(t, x.Graph, many(fed(0, 3, 1, 1)), topWork, want, api.OK)
		// In a later epoch all of that counts once more.
		for i := range products {
			products[i] *= 2
		}
		asks(t, x.Graph, many(fed(0, 3, 1, 1), fed(0, 4, 1, 1)), topWork, append(want, values(s, 4, 1, products...)...), api.OK)
	}
}

// Each KTotal sums by itself what came to it.
func TestP12_1_SeveralTotals(t *testing.T) {
	x := newPlan()
	a := x.input()
	one := x.of(api.KTotal, a)
	two := x.of(api.KTotal, one)
	other := x.of(api.KTotal, x.by(api.KShift, 10, a))
	s, u, v := x.sink(one), x.sink(two), x.sink(other)
	gives(t, x.Graph, many(fed(a, 0, 1, 1), fed(a, 1, 1, 2), fed(a, 1, 1, 2), fed(a, 7, 1, 4)),
		out(s, 0, 1, 1), out(s, 1, 1, 5), out(s, 7, 1, 9), out(u, 0, 1, 1), out(u, 1, 1, 6), out(u, 7, 1, 15), out(v, 0, 1, 11), out(v, 1, 1, 35), out(v, 7, 1, 49))
}

// In a loop the rounds ahead count, of this epoch and of those ahead of it; but none of another epoch's rounds behind this one.
func TestP12_1_TotalsInALoop(t *testing.T) {
	x := newPlan()
	begin, _ := x.loop(3, x.input(), func(from int) int { return x.by(api.KShift, 1, from) })
	s := x.sink(x.leave(x.of(api.KTotal, begin)))
	// The epoch 0 has 10, 11, 12 at its counters, the epoch 1 has 100, 101, 102.
	means(t, x.Graph, many(fed(0, 1, 1, 100), fed(0, 0, 1, 10)), 2+2+4+6+6+6+6+6,
		append(values(s, 0, 1, 10, 21, 33), values(s, 1, 1, 110, 222, 336)...)...)
	// What goes around hangs on the totals: 1, 1, 2, 4 come in the epoch 0, 1, 2, 5, 12 in the other one.
	x = newPlan()
	_, end := x.loop(4, x.input(), func(from int) int { return x.of(api.KTotal, from) })
	s = x.sink(x.leave(end))
	gives(t, x.Graph, many(fed(0, 0, 1, 1), fed(0, 5, 1, 1)), append(values(s, 0, 1, 1, 2, 4, 8), values(s, 5, 1, 2, 5, 12, 28)...)...)
}

// counters is a graph whose KTotal gets what is fed to the one input at the counter 0, what is fed to the other one at the counter 1.
func counters() (g api.Graph, zero, one, sink int) {
	x := newPlan()
	zero, one = x.input(), x.input()
	x.into(2)
	both := x.of(api.KConcat, x.of(api.KEnter, zero), x.of(api.KBack, x.of(api.KEnter, one)))
	sink = x.sink(x.leave(x.of(api.KTotal, both)))
	return x.Graph, zero, one, sink
}

// Of two times that are beside each other neither counts for the other one; what is behind both has both.
func TestP12_1_TotalsBesideEachOther(t *testing.T) {
	g, zero, one, s := counters()
	gives(t, g, many(fed(one, 0, 1, 5), fed(zero, 1, 1, 30)), out(s, 0, 1, 5), out(s, 1, 1, 30))
	gives(t, g, many(fed(zero, 0, 1, 5), fed(one, 1, 1, 30)), out(s, 0, 1, 5), out(s, 1, 1, 35))
	gives(t, g, many(fed(one, 0, 1, 5), fed(zero, 1, 1, 30), fed(one, 1, 1, 100)), out(s, 0, 1, 5), out(s, 1, 1, 30), out(s, 1, 1, 135))
	gives(t, g, many(fed(one, 0, 1, 5), fed(zero, 1, 1, 30), fed(one, 9, 1, 100), fed(zero, 0, 2, 1)), out(s, 0, 1, 5), out(s, 0, 2, 1), out(s, 1, 1, 30), out(s, 9, 1, 135))
	gives(t, g, many(fed(zero, 1, 1, 30), fed(zero, 2, 1, 1), fed(one, 0, 1, 5), fed(one, 2, 1, 0)), out(s, 0, 1, 5), out(s, 1, 1, 30), out(s, 2, 1, 31), out(s, 2, 1, 36))
}

// In loops within loops each counter counts: of times of one epoch, too, some are beside each other.
func TestP12_1_TotalsInDeepLoops(t *testing.T) {
	x := newPlan()
	var total int
	i := x.input()
	begin, _ := x.loop(2, i, func(from int) int {
		begin, _ := x.loop(3, from, func(from int) int { return x.by(api.KShift, 1, from) })
		total = x.of(api.KLeave, x.of(api.KTotal, begin))
		x.leave(begin)
		return x.by(api.KShift, 100, from)
	})
	x.of(api.KLeave, begin)
	s := x.sink(x.leave(total))
	// At 0.0, 0.1, 0.2 come 10, 11, 12, at 1.0, 1.1, 1.2 come 110, 111, 112: at 1.0 the total is 10 + 110, without 11 and 12.
	gives(t, x.Graph, many(fed(i, 0, 1, 10)), values(s, 0, 1, 10, 21, 33, 120, 242, 366)...)
	gives(t, x.Graph, many(fed(i, 0, 1, 10), fed(i, 3, 1, 0)), append(values(s, 0, 1, 10, 21, 33, 120, 242, 366), values(s, 3, 1, 10, 22, 36, 220, 444, 672)...)...)
}

// As deep as may be.
func TestP12_1_TotalsAtDepthFour(t *testing.T) {
	x := newPlan()
	x.sink(nest(x, many(2, 3, 2), x.input(), func(from int) int { return x.by(api.KShift, 1, x.of(api.KTotal, from)) }))
	feeds := many(fed(0, 0, 1, 10), fed(0, 3, 1, 1), fed(0, 3, 2, 5), fed(0, 4, 2, -5))
	gives(t, x.Graph, feeds, slowly(x.Graph, feeds).outs...)
}

// Over a thousand epochs.
func TestP12_1_TotalsOfManyEpochs(t *testing.T) {
	var feeds []api.Feed
	var want []api.Out
	sums := map[int64]int64{}
	for i := range 1200 {
		k, v := int64(i%7), int64(i*i%1000-300)
		sums[k] += v
		feeds = append(feeds, fed(0, i*5, k, v))
		want = append(want, out(2, i*5, k, sums[k]))
	}
	asks(t, totals(), feeds, 2400, want, api.OK)
	asks(t, totals(), feeds, 2399, nil, api.ErrFull)
}
