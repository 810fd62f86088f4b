package mean_test

import (
	"math"
	"slices"
	"testing"

	"backwash/api"
	"backwash/mean"
	"backwash/valid"
)

// plain is an input with a sink behind it.
func plain() api.Graph {
	x := newPlan()
	x.sink(x.input())
	return x.Graph
}

// ring is an input, a loop that goes around, and a sink.
func ring(bound int) api.Graph {
	x := newPlan()
	begin, _ := x.loop(bound, x.input(), func(from int) int { return from })
	x.sink(x.leave(begin))
	return x.Graph
}

// but is a graph with something else in it.
func but(g api.Graph, change func(g *api.Graph)) api.Graph {
	g.Parent, g.Bound, g.Nodes, g.Edges = slices.Clone(g.Parent), slices.Clone(g.Bound), slices.Clone(g.Nodes), slices.Clone(g.Edges)
	change(&g)
	return g
}

// fault is a graph that may not run, and why not.
type fault struct {
	err api.Errno
	g   api.Graph
}

// faults are graphs that may not run, by each of the reasons.
func faults() []fault {
	p, r := plain(), ring(3)
	deep := newPlan()
	n := deep.input()
	for range 4 {
		deep.into(1)
		n = deep.of(api.KEnter, n)
	}
	long, wide, scopes := newPlan(), newPlan(), newPlan()
	for n := long.input(); n < 32; {
		n = long.of(api.KInspect, n)
	}
	n = wide.input()
	for range 31 {
		wide.of(api.KConcat, n, n)
	}
	wide.Edges = append(wide.Edges, wide.Edges[:3]...)
	n = scopes.input()
	for range 8 {
		scopes.into(1)
		scopes.leave(scopes.of(api.KEnter, n))
	}
	return []fault{
		{api.ErrScope, api.Graph{}},
		{api.ErrScope, but(p, func(g *api.Graph) { g.Parent, g.Bound = nil, nil })},
		{api.ErrScope, but(p, func(g *api.Graph) { g.Bound = nil })},
		{api.ErrScope, but(p, func(g *api.Graph) { g.Bound = append(g.Bound, 1) })},
		{api.ErrScope, but(p, func(g *api.Graph) { g.Parent[0] = 0 })},
		{api.ErrScope, but(p, func(g *api.Graph) { g.Bound[0] = 1 })},
		{api.ErrScope, but(r, func(g *api.Graph) { g.Parent[1] = 1 })},
		{api.ErrScope, but(r, func(g *api.Graph) { g.Parent[1] = -1 })},
		{api.ErrScope, but(r, func(g *api.Graph) { g.Bound[1] = 0 })},
		{api.ErrScope, but(r, func(g *api.Graph) { g.Bound[1] = 65 })},
		{api.ErrScope, deep.Graph},
		{api.ErrScope, scopes.Graph},
		{api.ErrLong, but(p, func(g *api.Graph) { g.Nodes, g.Edges = nil, nil })},
		{api.ErrLong, long.Graph},
		{api.ErrLong, wide.Graph},
		{api.ErrArg, but(p, func(g *api.Graph) { g.Nodes[1].Kind = 16 })},
		{api.ErrArg, but(p, func(g *api.Graph) { g.Nodes[0].Kind = 0 })},
		{api.ErrScope, but(p, func(g *api.Graph) { g.Nodes[1].Scope = 1 })},
		{api.ErrScope, but(p, func(g *api.Graph) { g.Nodes[1].Kind = api.KBack })},
		{api.ErrScope, but(r, func(g *api.Graph) { g.Nodes[2].Kind = api.KInput })},
		{api.ErrScope, but(r, func(g *api.Graph) { g.Nodes[2].Scope = 0 })},
		{api.ErrScope, but(p, func(g *api.Graph) { g.Nodes[0].Scope = -1 })},
		{api.ErrArg, alone(api.Node{Kind: api.KKeep})},
		{api.ErrArg, alone(api.Node{Kind: api.KSum, Arg: 1})},
		{api.ErrCode, alone(api.Node{Kind: api.KProg, Prog: many(in(17))})},
		{api.ErrCode, alone(api.Node{Kind: api.KInspect, Prog: many(in(api.OpKey))})},
		{api.ErrPort, but(p, func(g *api.Graph) { g.Edges[0].From = -1 })},
		{api.ErrPort, but(p, func(g *api.Graph) { g.Edges[0].To = 2 })},
		{api.ErrPort, but(p, func(g *api.Graph) { g.Edges[0].From = 1 })},
		{api.ErrPort, but(p, func(g *api.Graph) { g.Edges[0].Port = 1 })},
		{api.ErrScope, but(r, func(g *api.Graph) { g.Edges[0].To = 2 })},
		{api.ErrLoop, but(alone(api.Node{Kind: api.KInspect}), func(g *api.Graph) { g.Edges[0].From = 1 })},
		{api.ErrArg, but(alone(api.Node{Kind: api.KSum}), func(g *api.Graph) { g.Edges[0].Exchange = false })},
		{api.ErrPort, but(p, func(g *api.Graph) { g.Edges = append(g.Edges, g.Edges[0]) })},
		{api.ErrPort, but(p, func(g *api.Graph) { g.Edges = nil })},
		{api.ErrPort, but(two(api.KJoin), func(g *api.Graph) { g.Edges = g.Edges[1:] })},
	}
}

func TestP12_1_GraphsThatMayNotRun(t *testing.T) {
	for i, f := range faults() {
		if e, _ := valid.Check(f.g); e != f.err {
			t.Errorf("%d: %d, not %d", i, e, f.err)
		}
		asks(t, f.g, nil, 0, nil, api.ErrArg)
		asks(t, f.g, nil, topWork, nil, api.ErrArg)
		asks(t, f.g, many(fed(0, 0, 1, 1)), 100, nil, api.ErrArg)
		asks(t, f.g, many(fed(0, 0, 1, 1)), 0, nil, api.ErrArg)
	}
}

// Just within what may run.
func TestP12_1_GraphsThatMayJustRun(t *testing.T) {
	long, deep, scopes := newPlan(), newPlan(), newPlan()
	n := long.input()
	for range 30 {
		n = long.of(api.KInspect, n)
	}
	means(t, long.Graph, many(fed(0, 0, 1, 1)), 31, out(long.sink(n), 0, 1, 1))
	n = deep.input()
	for range 3 {
		deep.into(64)
		n = deep.of(api.KEnter, n)
	}
	for range 3 {
		n = deep.leave(n)
	}
	s := deep.sink(n)
	asks(t, deep.Graph, many(fed(0, 9, 1, 1)), 6, nil, api.ErrFull)
	asks(t, deep.Graph, many(fed(0, 9, 1, 1)), 7, many(out(s, 9, 1, 1)), api.OK)
	n = scopes.input()
	for range 7 {
		scopes.into(1)
		n = scopes.leave(scopes.of(api.KEnter, n))
	}
	s = scopes.sink(n)
	means(t, scopes.Graph, many(fed(0, 9, 1, 1)), 15, out(s, 9, 1, 1))
}

func TestP12_1_FeedsToNoInput(t *testing.T) {
	g := everyKind()
	for n, x := range g.Nodes {
		want := api.ErrArg
		if x.Kind == api.KInput {
			want = api.OK
		}
		if _, e := mean.Run(g, many(fed(n, 0, 1, 1)), 1000); e != want {
			t.Errorf("%d of kind %d: %d", n, x.Kind, e)
		}
	}
	for _, n := range many(-1, -2, math.MinInt, len(g.Nodes), len(g.Nodes)+1, 32, 64, 1<<32, math.MaxInt) {
		asks(t, g, many(fed(n, 0, 1, 1)), 1000, nil, api.ErrArg)
		asks(t, plain(), many(fed(n, 0, 1, 1)), 1000, nil, api.ErrArg)
	}
}

func TestP12_1_EpochsOfFeeds(t *testing.T) {
	for _, epoch := range many(0, 1, 2, 1000, topEpoch-1, topEpoch) {
		means(t, plain(), many(fed(0, epoch, 1, 1)), 1, out(1, epoch, 1, 1))
		means(t, ring(2), many(fed(0, epoch, 1, 1)), 9, out(5, epoch, 1, 1), out(5, epoch, 1, 1))
	}
	for _, epoch := range many(-1, -2, math.MinInt, topEpoch+1, topEpoch+2, 1<<21, 1<<32, math.MaxInt) {
		asks(t, plain(), many(fed(0, epoch, 1, 1)), 1, nil, api.ErrArg)
		asks(t, ring(2), many(fed(0, epoch, 1, 1)), 9, nil, api.ErrArg)
	}
}

func TestP12_1_Most(t *testing.T) {
	feeds := many(fed(0, 0, 1, 1))
	for _, most := range many(1, 2, 1000, topWork-1, topWork) {
		asks(t, plain(), feeds, most, many(out(1, 0, 1, 1)), api.OK)
		asks(t, plain(), nil, most, nil, api.OK)
	}
	asks(t, plain(), feeds, 0, nil, api.ErrFull)
	asks(t, plain(), nil, 0, nil, api.OK)
	for _, most := range many(-1, -2, math.MinInt, topWork+1, topWork+2, 1<<21, 1<<32, math.MaxInt) {
		asks(t, plain(), feeds, most, nil, api.ErrArg)
		asks(t, plain(), nil, most, nil, api.ErrArg)
	}
}

// Whatever else is amiss, an argument that may not be is told, wherever it stands: behind work that is too much, or records without room.
func TestP12_1_ErrArgIsFirst(t *testing.T) {
	bad := many(fed(1, 0, 1, 1), fed(-1, 0, 1, 1), fed(2, 0, 1, 1), fed(0, -1, 1, 1), fed(0, topEpoch+1, 1, 1))
	good := times(room+1, fed(0, 0, 1, 1))
	asks(t, plain(), good, topWork, nil, api.ErrFull)
	asks(t, plain(), good[:2], 1, nil, api.ErrFull)
	for _, b := range bad {
		asks(t, plain(), append(slices.Clone(good), b), topWork, nil, api.ErrArg)
		asks(t, plain(), append(slices.Clone(good[:2]), b), 1, nil, api.ErrArg)
		asks(t, plain(), many(b, good[0]), 0, nil, api.ErrArg)
		asks(t, plain(), many(good[0], b, good[0]), 100, nil, api.ErrArg)
		asks(t, plain(), many(good[0], b, good[0]), -1, nil, api.ErrArg)
	}
	asks(t, plain(), good, -1, nil, api.ErrArg)
	asks(t, plain(), good, topWork+1, nil, api.ErrArg)
	for _, f := range faults() {
		asks(t, f.g, good, topWork, nil, api.ErrArg)
		asks(t, f.g, good[:2], 0, nil, api.ErrArg)
		asks(t, f.g, bad, -1, nil, api.ErrArg)
	}
}
