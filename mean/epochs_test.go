package mean_test

import (
	"slices"
	"testing"

	"backwash/api"
	"backwash/mean"
)

// orders calls f with each order of a list.
func orders[T any](list []T, f func(list []T)) {
	var turn func(head, rest []T)
	turn = func(head, rest []T) {
		if len(rest) == 0 {
			f(head)
		}
		for i := range rest {
			turn(append(slices.Clone(head), rest[i]), slices.Concat(rest[:i], rest[i+1:]))
		}
	}
	turn(nil, list)
}

// mixed is a list in an order by chance.
func mixed[T any](c *chance, list []T) []T {
	list = slices.Clone(list)
	for i := range list {
		j := i + c.below(len(list)-i)
		list[i], list[j] = list[j], list[i]
	}
	return list
}

// meant is what Run answers, with much work let.
func meant(t *testing.T, g api.Graph, feeds []api.Feed) []api.Out {
	t.Helper()
	l, e := mean.Run(g, feeds, topWork)
	if e != api.OK {
		t.Fatalf("%d, of %s and %+v", e, brief(feeds), g)
	}
	return l
}

// only those of a list that are so.
func only[T any](l []T, so func(x T) bool) []T {
	return slices.DeleteFunc(slices.Clone(l), func(x T) bool { return !so(x) })
}

// founded calls f with graphs by chance that mean something of their feeds, and in which no way leads around outside of its scope.
func founded(t *testing.T, seed chance, n int, f func(c *chance, g api.Graph, feeds []api.Feed, outs []api.Out)) {
	told := 0
	graphs(t, seed, n, func(c *chance, g api.Graph, feeds []api.Feed) {
		if _, around := outAndIn(g); around {
			return
		}
		outs, e := mean.Run(g, feeds, topWork)
		if e == api.ErrFull {
			return
		}
		if len(outs) > 0 {
			told++
		}
		f(c, g, feeds, outs)
	})
	if told < n/3 {
		t.Errorf("of %d only %d mean something", n, told)
	}
}

func TestP12_2_OrderOfFeeds(t *testing.T) {
	feeds := many(fed(0, 0, 1, 8), fed(1, 0, 1, 100), fed(0, 1, 1, 7), fed(0, 0, 1, 8), fed(0, 1, 2, 5), fed(1, 1, 1, 0))
	for _, g := range []api.Graph{everyKind(), two(api.KJoin), two(api.KConcat)} {
		want := meant(t, g, feeds)
		orders(feeds, func(l []api.Feed) { asks(t, g, l, topWork, want, api.OK) })
	}
	g := totals()
	feeds = many(fed(0, 4, 1, 1), fed(0, 0, 1, greatest), fed(0, 2, 1, least), fed(0, 1, 1, greatest), fed(0, 0, 2, 0))
	want := meant(t, g, feeds)
	orders(feeds, func(l []api.Feed) { asks(t, g, l, topWork, want, api.OK) })
	// Nor does it matter for an error, be it one that only some of the feeds make.
	feeds = append(times(300, fed(0, 7, 1, 1)), times(300, fed(1, 7, 1, 1))...)
	c := chance(22)
	for range 20 {
		asks(t, two(api.KJoin), mixed(&c, feeds), topWork, nil, api.ErrFull)
		asks(t, two(api.KJoin), mixed(&c, feeds[:350]), 15350, times(15000, out(3, 7, 1, 2)), api.OK)
		asks(t, two(api.KJoin), mixed(&c, feeds[:350]), 15349, nil, api.ErrFull)
	}
}

func TestP12_2_OrderOfManyFeeds(t *testing.T) {
	founded(t, 23, 1000, func(c *chance, g api.Graph, feeds []api.Feed, outs []api.Out) {
		for range 4 {
			asks(t, g, mixed(c, feeds), topWork, outs, api.OK)
		}
		backward := slices.Clone(feeds)
		slices.Reverse(backward)
		asks(t, g, backward, topWork, outs, api.OK)
	})
}

// upTo an epoch, what a graph means of the feeds up to there, is what it means of all.
func upTo(t *testing.T, g api.Graph, feeds []api.Feed, outs []api.Out, epoch int) {
	t.Helper()
	some := only(feeds, func(f api.Feed) bool { return f.Epoch <= epoch })
	// What comes of fewer epochs is no more work, and needs no more room.
	got := meant(t, g, some)
	if want := only(outs, func(o api.Out) bool { return o.Epoch <= epoch }); !slices.Equal(got, want) {
		t.Fatalf("up to %d: %s, not %s, of %s and %+v", epoch, brief(got), brief(want), brief(feeds), g)
	}
}

func TestP12_2_LaterEpochs(t *testing.T) {
	feeds := many(fed(0, 0, 1, 2), fed(0, 3, 1, 2), fed(0, 3, 2, 1), fed(0, 4, 1, -9), fed(0, 6, 1, greatest), fed(0, 7, 1, 1), fed(0, topEpoch, 2, 2))
	for _, g := range []api.Graph{plain(), ring(3), totals(), everyKind()} {
		outs := meant(t, g, feeds)
		for _, epoch := range many(0, 1, 2, 3, 4, 5, 6, 7, 8, topEpoch-1, topEpoch) {
			upTo(t, g, feeds, outs, epoch)
		}
	}
	founded(t, 24, 1000, func(c *chance, g api.Graph, feeds []api.Feed, outs []api.Out) {
		for _, epoch := range many(0, 1, 2, 6, 7, topEpoch-1) {
			upTo(t, g, feeds, outs, epoch)
		}
	})
}

// Without a KTotal each epoch stands by itself.
func TestP12_2_OtherEpochs(t *testing.T) {
	alone := 0
	founded(t, 25, 1500, func(c *chance, g api.Graph, feeds []api.Feed, outs []api.Out) {
		if slices.ContainsFunc(g.Nodes, func(n api.Node) bool { return n.Kind == api.KTotal }) {
			return
		}
		for _, epoch := range many(0, 1, 2, 6, 7, topEpoch) {
			got := meant(t, g, only(feeds, func(f api.Feed) bool { return f.Epoch == epoch }))
			want := only(outs, func(o api.Out) bool { return o.Epoch == epoch })
			if !slices.Equal(got, want) {
				t.Fatalf("of %d alone: %s, not %s, of %s and %+v", epoch, brief(got), brief(want), brief(feeds), g)
			}
			if len(got) > 0 && len(got) < len(outs) {
				alone++
			}
		}
		// Turned around, all epochs mean the same: nothing hangs on which of them is ahead.
		turned := slices.Clone(feeds)
		for i := range turned {
			turned[i].Epoch = topEpoch - turned[i].Epoch
		}
		back := meant(t, g, turned)
		for i := range back {
			back[i].Epoch = topEpoch - back[i].Epoch
		}
		slices.SortStableFunc(back, func(a, b api.Out) int {
			if a.Node != b.Node {
				return a.Node - b.Node
			}
			return a.Epoch - b.Epoch
		})
		if !slices.Equal(back, outs) {
			t.Fatalf("turned: %s, not %s, of %s and %+v", brief(back), brief(outs), brief(feeds), g)
		}
	})
	if alone < 300 {
		t.Errorf("too few epochs: %d", alone)
	}
}

// With one, an epoch hangs on those ahead of it: that is why they are asked about.
func TestP12_2_TotalsHangOnEarlierEpochs(t *testing.T) {
	g := totals()
	early, late := fed(0, 0, 1, 2), fed(0, 1, 1, 3)
	asks(t, g, many(late), 2, many(out(2, 1, 1, 3)), api.OK)
	asks(t, g, many(late, early), 4, many(out(2, 0, 1, 2), out(2, 1, 1, 5)), api.OK)
	asks(t, g, many(early), 2, many(out(2, 0, 1, 2)), api.OK)
	// Of a key that comes ahead nothing is given later, and of another key nothing counts.
	asks(t, g, many(early, fed(0, 1, 2, 4)), 4, many(out(2, 0, 1, 2), out(2, 1, 2, 4)), api.OK)
}
