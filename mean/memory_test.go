package mean_test

import (
	"reflect"
	"slices"
	"testing"

	"backwash/api"
	"backwash/mean"
)

// roomy is a list with spare room behind it, and the whole of that room.
func roomy[E any](l []E, fill E) (list, whole []E) {
	whole = slices.Concat(l, times(8, fill))
	return whole[:len(l)], whole
}

// scribble over a list and all of its spare room.
func scribble[E any](l []E, fill E) {
	l = l[:cap(l)]
	for i := range l {
		l[i] = fill
	}
}

// roomyGraph is a graph all of whose lists have spare room, and a call that tells of it with all of that room.
func roomyGraph(g api.Graph) (api.Graph, func() api.Graph) {
	var all api.Graph
	nodes := slices.Clone(g.Nodes)
	progs := make([][]api.Ins, len(nodes))
	for i := range nodes {
		nodes[i].Prog, progs[i] = roomy(nodes[i].Prog, api.Ins{Op: api.OpEmit})
	}
	g.Parent, all.Parent = roomy(g.Parent, 0)
	g.Bound, all.Bound = roomy(g.Bound, 7)
	g.Nodes, all.Nodes = roomy(nodes, api.Node{Kind: api.KSink})
	g.Edges, all.Edges = roomy(g.Edges, api.Edge{To: 1})
	return g, func() api.Graph {
		now := api.Graph{Parent: slices.Clone(all.Parent), Bound: slices.Clone(all.Bound), Nodes: slices.Clone(all.Nodes), Edges: slices.Clone(all.Edges)}
		for i, p := range progs {
			now.Nodes[i].Prog = slices.Clone(p)
		}
		return now
	}
}

// Neither the graph nor the feeds change, their spare room neither, and what stands there plays no part; nor is any of it kept.
func TestP12_1_WhatIsHandedInStays(t *testing.T) {
	ask := func(g api.Graph, feeds []api.Feed, most int) {
		want, err := mean.Run(g, feeds, most)
		h, told := roomyGraph(g)
		l, whole := roomy(feeds, fed(0, 0, 77, 77))
		before, was := told(), slices.Clone(whole)
		got, e := mean.Run(h, l, most)
		if e != err || !slices.Equal(got, want) {
			t.Fatalf("spare room matters: %s, %d, not %s, %d, of %s and %+v", brief(got), e, brief(want), err, brief(feeds), g)
		}
		if !reflect.DeepEqual(told(), before) || !slices.Equal(whole, was) {
			t.Fatalf("changed: %s and %+v", brief(feeds), g)
		}
		scribble(got, out(77, 77, 77, 77))
		if !reflect.DeepEqual(told(), before) || !slices.Equal(whole, was) {
			t.Fatalf("the answer shares its memory: %s and %+v", brief(feeds), g)
		}
		again, _ := mean.Run(h, l, most)
		scribble(whole, fed(9, 9, 9, 9))
		scribble(h.Nodes, api.Node{})
		scribble(h.Edges, api.Edge{})
		scribble(h.Parent, 5)
		scribble(h.Bound, 5)
		if !slices.Equal(again, want) {
			t.Fatalf("another answer: %s, not %s, of %s and %+v", brief(again), brief(want), brief(feeds), g)
		}
	}
	feeds := many(fed(0, 3, 1, 8), fed(1, 0, 1, 100), fed(0, 1, 1, 7), fed(0, 0, 1, 8), fed(0, 0, 1, 8))
	for _, most := range many(-1, 0, 10, 1000, topWork) {
		ask(everyKind(), feeds, most)
		ask(everyKind(), append(feeds, fed(2, 0, 1, 1)), most)
		ask(plain(), feeds[2:], most)
		ask(plain(), times(room+1, fed(0, 0, 1, 1)), most)
	}
	for _, f := range faults() {
		ask(f.g, feeds, topWork)
	}
	graphs(t, 31, 500, func(c *chance, g api.Graph, feeds []api.Feed) { ask(g, feeds, many(0, 5, 5000)[c.below(3)]) })
}

// Each answer is new memory, whatever was answered ahead, and the same each time.
func TestP12_1_AnswersAreTheirOwn(t *testing.T) {
	g, feeds := everyKind(), many(fed(0, 3, 1, 8), fed(1, 0, 1, 100), fed(0, 1, 1, 7), fed(1, 1, 1, 7), fed(0, 0, 1, 8), fed(0, 0, 1, 8))
	one, two := meant(t, g, feeds), meant(t, g, feeds)
	was := slices.Clone(two)
	scribble(one, out(77, 77, 77, 77))
	if !slices.Equal(two, was) {
		t.Errorf("%s became %s", brief(was), brief(two))
	}
	for range 20 {
		if three := meant(t, g, feeds); !slices.Equal(three, was) {
			t.Errorf("%s, then %s", brief(was), brief(three))
		}
	}
	// Nor is anything of one call left for the next one: neither totals, nor work, nor what had no room.
	for range 3 {
		asks(t, totals(), many(fed(0, 0, 1, 1), fed(0, 5, 1, 1)), 4, many(out(2, 0, 1, 1), out(2, 5, 1, 2)), api.OK)
		asks(t, totals(), many(fed(0, 0, 1, 1), fed(0, 5, 1, 1)), 3, nil, api.ErrFull)
		asks(t, totals(), times(room+1, fed(0, 0, 1, 1)), topWork, nil, api.ErrFull)
	}
}

// Beside an error there are no records, though those of the epochs ahead would have been there.
func TestP12_1_NothingBesideAnError(t *testing.T) {
	feeds := slices.Concat(many(fed(0, 0, 1, 1), fed(0, 1, 1, 1)), times(room+1, fed(0, 2, 1, 1)))
	for _, most := range many(-1, 0, 1, 2, 100, topWork, topWork+1) {
		if l, e := mean.Run(plain(), feeds, most); e == api.OK || l != nil {
			t.Errorf("%d: %s, %d", most, brief(l), e)
		}
	}
	for _, f := range faults() {
		if l, e := mean.Run(f.g, feeds[:2], topWork); e == api.OK || l != nil {
			t.Errorf("%s, %d of %+v", brief(l), e, f.g)
		}
	}
	for most := range 4 {
		if l, e := mean.Run(totals(), feeds[:2], most); e == api.OK || l != nil {
			t.Errorf("%d: %s, %d", most, brief(l), e)
		}
	}
}
