package mean_test

import (
	"testing"

	"backwash/api"
	"backwash/mean"
)

// everyKind is a graph with an operator of each kind, a loop, another one within it, and a scope behind it.
func everyKind() api.Graph {
	x := newPlan()
	a, b := x.input(), x.input()
	p := x.does(emits(2), a)
	k := x.by(api.KKeep, 2, x.by(api.KShift, -5, p))
	_, end := x.loop(3, k, func(from int) int {
		_, inner := x.loop(4, from, func(from int) int { return x.of(api.KDistinct, from) })
		return x.leave(inner)
	})
	sum := x.of(api.KSum, x.leave(end))
	x.into(64)
	joined := x.of(api.KInspect, x.of(api.KEnter, sum))
	j := x.of(api.KJoin, b, x.leave(joined))
	x.sink(x.of(api.KTotal, x.of(api.KCount, j)))
	x.sink(p)
	return x.Graph
}

// alone is an operator between an input and a sink.
func alone(n api.Node) api.Graph {
	x := newPlan()
	x.sink(x.put(n, x.input()))
	return x.Graph
}

// two is an operator of two ports, between two inputs and a sink.
func two(kind int) api.Graph {
	x := newPlan()
	a, b := x.input(), x.input()
	x.sink(x.of(kind, a, b))
	return x.Graph
}

// inner is an operator of one port in a scope around which nothing goes.
func inner(n api.Node) api.Graph {
	x := newPlan()
	i := x.input()
	x.into(7)
	x.sink(x.leave(x.put(n, x.of(api.KEnter, i))))
	return x.Graph
}

// some feeds in three epochs.
func some() []api.Feed {
	return many(fed(0, 1, 1, 2), fed(0, 0, 1, 2), fed(0, 1, 2, 7), fed(0, 1, 1, 2), fed(0, 1, 1, 3), fed(0, 5, 1, -4))
}

// kind asks what an operator of one port makes of them, in the first scope and in another one.
func kind(t *testing.T, n api.Node, want ...api.Out) {
	t.Helper()
	for i := range want {
		want[i].Node = 2
	}
	means(t, alone(n), some(), 6+len(want), want...)
	for i := range want {
		want[i].Node = 4
	}
	means(t, inner(n), some(), 6+6+2*len(want), want...)
}

func TestP12_1_KindsOfOnePort(t *testing.T) {
	kind(t, api.Node{Kind: api.KInspect}, out(2, 0, 1, 2), out(2, 1, 1, 2), out(2, 1, 1, 2), out(2, 1, 1, 3), out(2, 1, 2, 7), out(2, 5, 1, -4))
	kind(t, api.Node{Kind: api.KProg, Prog: emits(2)}, out(2, 0, 1, 2), out(2, 0, 1, 2), out(2, 1, 1, 2), out(2, 1, 1, 2), out(2, 1, 1, 2), out(2, 1, 1, 2), out(2, 1, 1, 3), out(2, 1, 1, 3), out(2, 1, 2, 7), out(2, 1, 2, 7), out(2, 5, 1, -4), out(2, 5, 1, -4))
	kind(t, api.Node{Kind: api.KProg, Prog: many(in(api.OpVal), in(api.OpKey), in(api.OpEmit))}, out(2, 0, 2, 1), out(2, 1, 2, 1), out(2, 1, 2, 1), out(2, 1, 3, 1), out(2, 1, 7, 2), out(2, 5, -4, 1))
	kind(t, api.Node{Kind: api.KProg, Prog: many(in(api.OpDrop))}, out(2, 0, 1, least+1), out(2, 1, 1, least+1), out(2, 1, 1, least+1), out(2, 1, 1, least+1), out(2, 1, 2, least+1), out(2, 5, 1, least+1))
	kind(t, api.Node{Kind: api.KShift, Arg: -2}, out(2, 0, 1, 0), out(2, 1, 1, 0), out(2, 1, 1, 0), out(2, 1, 1, 1), out(2, 1, 2, 5), out(2, 5, 1, -6))
	kind(t, api.Node{Kind: api.KShift, Arg: greatest - 2}, out(2, 0, 1, greatest), out(2, 1, 1, over), out(2, 1, 1, greatest), out(2, 1, 1, greatest), out(2, 1, 2, over), out(2, 5, 1, greatest-6))
	kind(t, api.Node{Kind: api.KKeep, Arg: 2}, out(2, 0, 1, 2), out(2, 1, 1, 2), out(2, 1, 1, 2), out(2, 5, 1, -4))
	kind(t, api.Node{Kind: api.KSum}, out(2, 0, 1, 2), out(2, 1, 1, 7), out(2, 1, 2, 7), out(2, 5, 1, -4))
	kind(t, api.Node{Kind: api.KCount}, out(2, 0, 1, 1), out(2, 1, 1, 3), out(2, 1, 2, 1), out(2, 5, 1, 1))
	kind(t, api.Node{Kind: api.KDistinct}, out(2, 0, 1, 2), out(2, 1, 1, 2), out(2, 1, 1, 3), out(2, 1, 2, 7), out(2, 5, 1, -4))
	kind(t, api.Node{Kind: api.KTotal}, out(2, 0, 1, 2), out(2, 1, 1, 9), out(2, 1, 2, 7), out(2, 5, 1, 5))
}

// What is made of something may be nothing, in one epoch or in all, and nothing comes of it further on.
func TestP12_1_NothingOfSomething(t *testing.T) {
	kind(t, api.Node{Kind: api.KProg})
	kind(t, api.Node{Kind: api.KProg, Prog: many(push(1), in(api.OpDrop))})
	kind(t, api.Node{Kind: api.KKeep, Arg: 100})
	kind(t, api.Node{Kind: api.KKeep, Arg: 7}, out(2, 1, 2, 7))
	x := newPlan()
	a := x.input()
	none := x.by(api.KKeep, 100, a)
	x.sink(x.of(api.KCount, none))
	x.sink(x.of(api.KJoin, a, none))
	x.sink(x.of(api.KTotal, none))
	s := x.sink(x.of(api.KConcat, none, a))
	means(t, x.Graph, many(fed(a, 0, 1, 1)), 4, out(s, 0, 1, 1))
}

func TestP12_1_KindsOfTwoPorts(t *testing.T) {
	feeds := many(fed(0, 0, 1, 2), fed(1, 0, 1, 10), fed(0, 1, 1, 2), fed(0, 1, 1, 2), fed(1, 1, 1, 20), fed(1, 1, 1, 30), fed(1, 1, 2, 0), fed(0, 1, 3, 0), fed(0, 2, 1, 1), fed(1, 3, 1, 1))
	means(t, two(api.KConcat), feeds, 20, out(3, 0, 1, 2), out(3, 0, 1, 10), out(3, 1, 1, 2), out(3, 1, 1, 2), out(3, 1, 1, 20), out(3, 1, 1, 30), out(3, 1, 2, 0), out(3, 1, 3, 0), out(3, 2, 1, 1), out(3, 3, 1, 1))
	// No record of one epoch is joined with one of another epoch.
	means(t, two(api.KJoin), feeds, 15, out(3, 0, 1, 12), out(3, 1, 1, 22), out(3, 1, 1, 22), out(3, 1, 1, 32), out(3, 1, 1, 32))
	means(t, two(api.KJoin), many(fed(0, 0, 1, greatest), fed(1, 0, 1, 1), fed(1, 0, 1, 0)), 5, out(3, 0, 1, over), out(3, 0, 1, greatest))
	// What comes to the one port alone.
	means(t, two(api.KConcat), many(fed(1, 0, 1, 1)), 2, out(3, 0, 1, 1))
	means(t, two(api.KJoin), many(fed(1, 0, 1, 1)), 1)
	means(t, two(api.KJoin), many(fed(0, 0, 1, 1)), 1)
}

// Which edge leads to which port counts, however the edges stand.
func TestP12_1_Ports(t *testing.T) {
	x := newPlan()
	a, b := x.input(), x.input()
	joined := x.of(api.KJoin, x.by(api.KShift, 100, b), x.of(api.KDistinct, a))
	s := x.sink(joined)
	feeds := many(fed(a, 0, 1, 1), fed(a, 0, 1, 1), fed(b, 0, 1, 2), fed(b, 0, 1, 2))
	for range len(x.Edges) {
		x.Edges = append(x.Edges[1:], x.Edges[0])
		means(t, x.Graph, feeds, 2+2+1+2+2, out(s, 0, 1, 103), out(s, 0, 1, 103))
	}
}

// Whether an edge is an exchange is nothing to what a graph means.
func TestP12_1_Exchanges(t *testing.T) {
	same := func(g api.Graph, feeds []api.Feed) {
		want, err := mean.Run(g, feeds, 5000)
		asks(t, but(g, func(g *api.Graph) {
			for i, e := range g.Edges {
				switch g.Nodes[e.To].Kind {
				case api.KSum, api.KCount, api.KDistinct, api.KJoin, api.KTotal:
				default:
					g.Edges[i].Exchange = false
				}
			}
			may(t, *g)
		}), feeds, 5000, want, err)
	}
	same(plain(), some())
	same(ring(3), some())
	same(everyKind(), some())
	graphs(t, 32, 200, func(c *chance, g api.Graph, feeds []api.Feed) { same(g, feeds) })
}

// Of one operator to both ports of another one.
func TestP12_1_BothPortsOfOne(t *testing.T) {
	x := newPlan()
	a := x.input()
	s, u := x.sink(x.of(api.KConcat, a, a)), x.sink(x.of(api.KJoin, a, a))
	means(t, x.Graph, many(fed(a, 0, 1, 1), fed(a, 0, 1, 2)), 4+4+4+4,
		out(s, 0, 1, 1), out(s, 0, 1, 1), out(s, 0, 1, 2), out(s, 0, 1, 2), out(u, 0, 1, 2), out(u, 0, 1, 3), out(u, 0, 1, 3), out(u, 0, 1, 4))
}

// By ways of unlike lengths, which part and meet, and whose records meet at one port.
func TestP12_1_WaysThatPartAndMeet(t *testing.T) {
	x := newPlan()
	a := x.input()
	short := x.by(api.KKeep, 2, a)
	long := x.by(api.KShift, 1, x.by(api.KShift, 1, x.by(api.KShift, 1, a)))
	both := x.of(api.KConcat, short, long)
	s := x.sink(x.of(api.KSum, both))
	u := x.sink(x.of(api.KJoin, both, short))
	means(t, x.Graph, many(fed(a, 0, 1, 1), fed(a, 0, 1, 4), fed(a, 0, 2, 1)), 3+3+3+3+1+3+4+2+4+1+3,
		out(s, 0, 1, 15), out(s, 0, 2, 4), out(u, 0, 1, 8), out(u, 0, 1, 8), out(u, 0, 1, 11))
}

// Each kind within one graph.
func TestP12_1_EachKind(t *testing.T) {
	g := everyKind()
	kinds := map[int]int{}
	for _, n := range g.Nodes {
		kinds[n.Kind]++
	}
	if len(kinds) != 15 {
		t.Errorf("%d kinds", len(kinds))
	}
	feeds := many(fed(0, 0, 1, 7), fed(0, 0, 1, 8), fed(0, 1, 1, 9), fed(0, 1, 2, 5), fed(1, 0, 1, 100), fed(1, 1, 1, 100), fed(1, 1, 2, 200), fed(1, 1, 2, 200), fed(1, 1, 3, 0))
	p, s := len(g.Nodes)-1, len(g.Nodes)-2
	// Of what comes to the outer loop the inner one makes each record once in each of four rounds, and so in each of three rounds around it: (1 2), in the epoch 1 (1 4) and (2 0), twelve times.
	means(t, g, feeds, 415,
		out(s, 0, 1, 1), out(s, 1, 1, 2), out(s, 1, 2, 2),
		out(p, 0, 1, 7), out(p, 0, 1, 7), out(p, 0, 1, 8), out(p, 0, 1, 8), out(p, 1, 1, 9), out(p, 1, 1, 9), out(p, 1, 2, 5), out(p, 1, 2, 5))
}
