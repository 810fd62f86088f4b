package mean_test

import (
	"slices"
	"testing"

	"backwash/api"
	"backwash/mean"
	"backwash/valid"
)

// chance is a row of numbers that looks like chance, the same each time.
type chance uint64

func (c *chance) below(n int) int {
	*c = *c*6364136223846793005 + 1442695040888963407
	return int(uint64(*c)>>33) % n
}

// node by chance, of a kind, with a number or a program, if it has one.
func (c *chance) node(kind int) api.Node {
	n := api.Node{Kind: kind}
	switch kind {
	case api.KShift:
		n.Arg = many[int64](0, 1, 1, -1, 7, greatest, least)[c.below(7)]
	case api.KKeep:
		n.Arg = many[int64](1, 2, 2, 3, greatest)[c.below(5)]
	case api.KProg:
		n.Prog = [][]api.Ins{nil, down(), emits(1), emits(2), many(in(api.OpVal), in(api.OpKey), in(api.OpEmit)), many(in(api.OpAdd))}[c.below(6)]
	}
	return n
}

// graph by chance that may run, of at most so many operators, in up to so many scopes.
func (c *chance) graph(most, scopes int) api.Graph {
	x := newPlan()
	for range 1 + c.below(2) {
		x.input()
	}
	c.fill(x, most-2, scopes)
	for range 1 + c.below(2) {
		x.of(api.KSink)
	}
	c.wire(x)
	return x.Graph
}

// fill a scope with operators, and with scopes within it, most of which are loops.
func (c *chance) fill(x *plan, most, scopes int) {
	kinds := many(api.KProg, api.KShift, api.KKeep, api.KConcat, api.KSum, api.KCount, api.KDistinct, api.KJoin, api.KInspect, api.KTotal)
	if x.scope == 0 {
		kinds = append(kinds, api.KInput, api.KSink)
	} else {
		kinds = append(kinds, api.KBack, api.KBack, api.KLeave, api.KConcat, api.KConcat, api.KEnter)
	}
	for range 2 + c.below(7) {
		if len(x.Nodes)+1 >= most {
			return
		}
		outer := x.scope
		if outer > 0 && c.below(20) == 0 {
			x.of(api.KLeave)
			x.of(api.KEnter)
			continue
		}
		if c.below(3) > 0 || len(x.Parent) > scopes || len(x.Nodes)+4 > most || valid.Depth(x.Graph, outer) == 4 {
			x.put(c.node(kinds[c.below(len(kinds))]))
			continue
		}
		x.into(1 + c.below(4))
		x.of(api.KEnter)
		if c.below(4) > 0 {
			x.of(api.KConcat)
		}
		c.fill(x, most-2, scopes)
		x.of(api.KBack)
		x.of(api.KLeave)
		x.scope = outer
	}
}

// wire each port to an operator that gives where it takes; an operator for which there is none becomes another one, or goes.
func (c *chance) wire(x *plan) {
	for i := 0; i < len(x.Nodes); i++ {
		if from := c.sources(x.Graph, i); valid.Ports(x.Nodes[i].Kind) > 0 && (len(from) == 0 || from[0] >= i) {
			x.Nodes = slices.Delete(x.Nodes, i, i+1)
			i = -1
		}
	}
	for i, n := range x.Nodes {
		from := c.sources(x.Graph, i)
		for port := range valid.Ports(n.Kind) {
			x.lead(c.source(from, i, port), i, port)
		}
	}
	for i := range x.Edges {
		j := i + c.below(len(x.Edges)-i)
		x.Edges[i], x.Edges[j] = x.Edges[j], x.Edges[i]
	}
}

// source of a port: of the first one often one of the last ones ahead, of the second one often one that leads around.
func (c *chance) source(from []int, i, port int) int {
	ahead, _ := slices.BinarySearch(from, i)
	switch {
	case port == 1 && ahead < len(from) && c.below(4) > 0:
		return from[ahead+c.below(len(from)-ahead)]
	case ahead > 0 && c.below(4) > 0:
		return from[max(0, ahead-1-c.below(2))]
	}
	return from[c.below(len(from))]
}

// sources are the operators that may give to one, in order.
func (c *chance) sources(g api.Graph, i int) []int {
	scope := func(n api.Node, across int) int {
		if n.Kind == across {
			return g.Parent[n.Scope]
		}
		return n.Scope
	}
	var l []int
	for j, n := range g.Nodes {
		if n.Kind != api.KSink && scope(n, api.KLeave) == scope(g.Nodes[i], api.KEnter) && (j < i || n.Kind == api.KBack) {
			l = append(l, j)
		}
	}
	return l
}

// feeds by chance, a few.
func (c *chance) feeds(g api.Graph, most int) []api.Feed {
	var l []api.Feed
	for range c.below(most + 1) {
		if n := c.below(len(g.Nodes)); g.Nodes[n].Kind == api.KInput {
			l = append(l, c.feed(n))
		} else {
			l = append(l, c.feed(0))
		}
	}
	return l
}

// feed by chance to an input.
func (c *chance) feed(node int) api.Feed {
	v := many[int64](0, 1, 2, 3, 4, 5, -1, -6, greatest, least)[c.below(10)]
	return fed(node, many(0, 0, 1, 1, 2, 7, topEpoch)[c.below(7)], int64(c.below(3)), v)
}

// outAndIn: does some way lead out of a scope and straight into it again; and does what comes to some point hang on what it gives itself, by such a way?
func outAndIn(g api.Graph) (some, around bool) {
	some = slices.ContainsFunc(g.Edges, func(e api.Edge) bool {
		a, b := g.Nodes[e.From], g.Nodes[e.To]
		return a.Kind == api.KLeave && b.Kind == api.KEnter && a.Scope == b.Scope
	})
	if !some {
		return false, false
	}
	// Each epoch goes the same ways, and hangs on no later one.
	s := &slow{g: g, epochs: many(0)}
	seen := map[api.Point]int{}
	for n := range g.Nodes {
		for _, t := range s.times(n) {
			around = around || s.around(api.Point{Node: n, Time: t}, seen)
		}
	}
	return some, around
}

// around: does one lead to itself of those on which a point hangs? Who is asked about is seen once, and twice once that is answered.
func (s *slow) around(p api.Point, seen map[api.Point]int) bool {
	if seen[p] > 0 {
		return seen[p] == 1
	}
	seen[p] = 1
	for _, t := range s.times(p.Node) {
		if t != p.Time && (s.g.Nodes[p.Node].Kind != api.KTotal || !notAbove(t, p.Time)) {
			continue
		}
		for _, e := range s.g.Edges {
			if e.To != p.Node {
				continue
			}
			for _, u := range s.whence(s.g.Nodes[e.From], t) {
				if s.around(api.Point{Node: e.From, Time: u}, seen) {
					return true
				}
			}
		}
	}
	seen[p] = 2
	return false
}

// graphs by chance, small ones and some with as many operators as there may be; with one feed or more to each.
func graphs(t *testing.T, seed chance, n int, f func(c *chance, g api.Graph, feeds []api.Feed)) {
	c := &seed
	for i := range n {
		g := c.graph(5+i%25, i%5)
		if i%20 == 0 {
			g = c.graph(32, 5)
		}
		may(t, g)
		f(c, g, c.feeds(g, 6))
	}
}

func TestP12_1_ManyGraphs(t *testing.T) {
	seen := map[string]int{}
	graphs(t, 12, 6000, func(c *chance, g api.Graph, feeds []api.Feed) {
		a := slowly(g, feeds)
		some, around := outAndIn(g)
		kinds := map[int]int{}
		for _, n := range g.Nodes {
			kinds[n.Kind]++
		}
		switch {
		case !a.settled:
			// Nothing is said of what this means, but that it ends.
			seen["endless"]++
			if got, e := mean.Run(g, feeds, 5000); e == api.ErrArg || e != api.OK && len(got) > 0 {
				t.Fatalf("%s, %d, of %s and %+v", brief(got), e, brief(feeds), g)
			}
			return
		case a.full || a.work > topWork:
			seen["full"]++
			asks(t, g, feeds, topWork, nil, api.ErrFull)
			return
		case around:
			// There may be several answers that fit, or none that is come upon; but this is hardly so.
			seen["around"]++
			if got, e := mean.Run(g, feeds, 20000); e != api.OK || !slices.Equal(got, a.outs) {
				seen["other"]++
			}
		default:
			means(t, g, feeds, a.work, a.outs...)
		}
		if len(a.outs) > 0 {
			seen["told"]++
			if some && !around {
				seen["out and in"]++
			}
			if kinds[api.KTotal] > 0 {
				seen["totals"]++
			}
			if kinds[api.KBack] > 0 {
				seen["loops"]++
			}
		}
	})
	if seen["other"] > seen["around"]/20 {
		t.Errorf("%d of %d go around to something else", seen["other"], seen["around"])
	}
	for what, least := range map[string]int{"told": 2000, "totals": 500, "loops": 1000, "out and in": 100, "around": 20, "full": 1, "endless": 1} {
		if seen[what] < least {
			t.Errorf("%s: %d", what, seen[what])
		}
	}
}
