package valid_test

import (
	"cmp"
	"fmt"
	"slices"
	"testing"

	"backwash/api"
)

// fault is a change to the graph whole, where it is found, and what it is: the chapter's point, the number, which of the errors of that point, and its own number.
type fault struct {
	name            string
	change          func(g *api.Graph)
	point, at, rank int
	e               api.Errno
}

// faults are one for each thing that the chapter asks, several of some; each leaves the rest as it is, up to the place at which it is found.
func faults() []fault {
	node := func(i int, change func(n *api.Node)) func(g *api.Graph) {
		return func(g *api.Graph) { change(&g.Nodes[i]) }
	}
	edge := func(i int, change func(e *api.Edge)) func(g *api.Graph) {
		return func(g *api.Graph) { change(&g.Edges[i]) }
	}
	return []fault{
		{"too many bounds", func(g *api.Graph) { g.Bound = append(g.Bound, 1) }, 1, -1, 1, api.ErrScope},
		{"the first parent", func(g *api.Graph) { g.Parent[0] = 0 }, 1, 0, 1, api.ErrScope},
		{"the first bound", func(g *api.Graph) { g.Bound[0] = 1 }, 1, 0, 2, api.ErrScope},
		{"a parent that isn't ahead", func(g *api.Graph) { g.Parent[1] = 1 }, 1, 1, 1, api.ErrScope},
		{"a bound", func(g *api.Graph) { g.Bound[2] = 65 }, 1, 2, 2, api.ErrScope},
		{"another bound", func(g *api.Graph) { g.Bound[3] = 0 }, 1, 3, 2, api.ErrScope},
		{"too many edges", func(g *api.Graph) { g.Edges = append(g.Edges, make([]api.Edge, 41)...) }, 2, -1, 1, api.ErrLong},
		{"too many operators", func(g *api.Graph) { g.Nodes = append(g.Nodes, make([]api.Node, 10)...) }, 2, -1, 1, api.ErrLong},
		{"the first operator's kind", node(0, func(n *api.Node) { n.Kind = 0 }), 2, 0, 1, api.ErrArg},
		{"the first operator's scope", node(0, func(n *api.Node) { n.Scope = 1 }), 2, 0, 2, api.ErrScope},
		{"the first operator's number", node(0, func(n *api.Node) { n.Arg = 1 }), 2, 0, 5, api.ErrArg},
		{"the first operator's program", node(0, func(n *api.Node) { n.Prog = codeOf(api.OpKey, 1) }), 2, 0, 6, api.ErrCode},
		{"a program", node(2, func(n *api.Node) { n.Prog = codeOf(api.OpKey, 65) }), 2, 2, 6, api.ErrCode},
		{"a number", node(4, func(n *api.Node) { n.Arg = 0 }), 2, 4, 5, api.ErrArg},
		{"a kind", node(6, func(n *api.Node) { n.Kind = 16 }), 2, 6, 1, api.ErrArg},
		{"a scope that isn't there", node(6, func(n *api.Node) { n.Scope = 4 }), 2, 6, 2, api.ErrScope},
		{"a number of none", node(6, func(n *api.Node) { n.Arg = -1 }), 2, 6, 5, api.ErrArg},
		{"a program of none", node(6, func(n *api.Node) { n.Prog = codeOf(api.OpKey, 1) }), 2, 6, 6, api.ErrCode},
		{"a scope left too early", node(6, func(n *api.Node) { n.Scope = 3 }), 2, 7, 4, api.ErrScope},
		{"a feedback of the first scope", node(12, func(n *api.Node) { n.Scope = 0 }), 2, 12, 3, api.ErrScope},
		{"another program of none", node(12, func(n *api.Node) { n.Prog = codeOf(0, 1) }), 2, 12, 6, api.ErrCode},
		{"a scope that doesn't fit", node(16, func(n *api.Node) { n.Scope = 2 }), 2, 16, 4, api.ErrScope},
		{"its number too", node(16, func(n *api.Node) { n.Arg = 7 }), 2, 16, 5, api.ErrArg},
		{"a sink in a loop", node(22, func(n *api.Node) { n.Scope = 3 }), 2, 22, 3, api.ErrScope},
		{"the last operator's kind", node(22, func(n *api.Node) { n.Kind = -1 }), 2, 22, 1, api.ErrArg},
		{"the last operator's program", node(22, func(n *api.Node) { n.Prog = codeOf(17, 1) }), 2, 22, 6, api.ErrCode},
		{"the first edge's scope", edge(0, func(e *api.Edge) { e.From = 11 }), 3, 0, 4, api.ErrScope},
		{"the first edge's port", edge(0, func(e *api.Edge) { e.Port = 1 }), 3, 0, 3, api.ErrPort},
		{"a loop", edge(4, func(e *api.Edge) { e.From = 6 }), 3, 4, 5, api.ErrLoop},
		{"a port that is not there", edge(4, func(e *api.Edge) { e.Port = 2 }), 3, 4, 3, api.ErrPort},
		{"a port that is taken", edge(5, func(e *api.Edge) { e.Port = 0 }), 3, 5, 7, api.ErrPort},
		{"no exchange", edge(9, func(e *api.Edge) { e.Exchange = false }), 3, 9, 6, api.ErrArg},
		{"its loop too", edge(9, func(e *api.Edge) { e.From = 9 }), 3, 9, 5, api.ErrLoop},
		{"its scope too", edge(9, func(e *api.Edge) { e.From = 6 }), 3, 9, 4, api.ErrScope},
		{"its port too", edge(9, func(e *api.Edge) { e.Port = -1 }), 3, 9, 3, api.ErrPort},
		{"its source too", edge(9, func(e *api.Edge) { e.From = 23 }), 3, 9, 1, api.ErrPort},
		{"from nowhere", edge(18, func(e *api.Edge) { e.From = -1 }), 3, 18, 1, api.ErrPort},
		{"to nowhere", edge(19, func(e *api.Edge) { e.To = 23 }), 3, 19, 1, api.ErrPort},
		{"out of a sink", edge(22, func(e *api.Edge) { e.From = 22 }), 3, 22, 2, api.ErrPort},
		{"one edge more", func(g *api.Graph) { g.Edges = append(g.Edges, api.Edge{From: 1, To: 4}) }, 3, 24, 7, api.ErrPort},
		{"an operator without an edge", func(g *api.Graph) { g.Nodes = append(g.Nodes, api.Node{Kind: api.KSink}) }, 4, 23, 1, api.ErrPort},
	}
}

// first tells which of two faults is found ahead of the other.
func first(a, b fault) fault {
	if cmp.Or(cmp.Compare(a.point, b.point), cmp.Compare(a.at, b.at), cmp.Compare(a.rank, b.rank)) <= 0 {
		return a
	}
	return b
}

func TestP9_1_EachFault(t *testing.T) {
	for _, f := range faults() {
		g := whole()
		f.change(&g)
		checks(t, f.name, g, f.e, max(f.at, 0))
		asSlow(t, f.name, g)
	}
}

// Of each two faults that can be in one graph, the one that the chapter names first is told.
func TestP9_1_WhichOfTwo(t *testing.T) {
	l := faults()
	for i, a := range l {
		for _, b := range l[i+1:] {
			g := whole()
			a.change(&g)
			b.change(&g)
			why := fmt.Sprint(a.name, ", and ", b.name)
			asSlow(t, why, g)
			if a.point == 2 && b.point == 2 && (a.at == 6 || a.at == 7) && (b.at == 6 || b.at == 7) {
				continue // both may change one scope
			}
			if a.point == 3 && b.point == 3 && a.at == b.at && (a.rank < 4 || b.rank < 6) {
				continue // both may change one end
			}
			if b.at == 23 && (a.point == 3 && a.at == 19 || a.name == "its source too") {
				continue // the one operator more is the one that wasn't there
			}
			want := first(a, b)
			checks(t, why, g, want.e, max(want.at, 0))
		}
	}
}

// Two errors of one operator, by hand.
func TestP9_1_WhichOfAnOperator(t *testing.T) {
	bad := codeOf(api.OpKey, 65)
	for name, c := range map[string]struct {
		n api.Node
		e api.Errno
	}{
		"a kind, and a scope":                  {api.Node{Kind: 0, Scope: 9}, api.ErrArg},
		"a kind, and a scope that doesn't fit": {api.Node{Kind: 16, Scope: 2}, api.ErrArg},
		"a kind, and a program":                {api.Node{Kind: 16, Prog: bad}, api.ErrArg},
		"a scope, and a number":                {api.Node{Kind: api.KKeep, Scope: 9}, api.ErrScope},
		"a scope, and a program":               {api.Node{Kind: api.KProg, Scope: -1, Prog: bad}, api.ErrScope},
		"the first scope, and a number":        {api.Node{Kind: api.KBack, Arg: 1}, api.ErrScope},
		"the first scope, and a program":       {api.Node{Kind: api.KLeave, Prog: bad}, api.ErrScope},
		"not the first scope, and a number":    {api.Node{Kind: api.KSink, Scope: 1, Arg: 1}, api.ErrScope},
		"not the first scope, and a program":   {api.Node{Kind: api.KInput, Scope: 1, Prog: bad}, api.ErrScope},
		"a scope that doesn't fit, a number":   {api.Node{Kind: api.KKeep, Scope: 2, Arg: -1}, api.ErrScope},
		"a scope that doesn't fit, a program":  {api.Node{Kind: api.KProg, Scope: 2, Prog: bad}, api.ErrScope},
		"a number, and a program":              {api.Node{Kind: api.KProg, Arg: 1, Prog: bad}, api.ErrArg},
		"a number of a keep, and a program":    {api.Node{Kind: api.KKeep, Prog: bad}, api.ErrArg},
		"a program alone":                      {api.Node{Kind: api.KProg, Prog: bad}, api.ErrCode},
	} {
		g := onScopes([]int{-1, 0, 1}, []int{0, 1, 1})
		g.Nodes = []api.Node{{Kind: api.KInput}, c.n, {Kind: 99}}
		checks(t, name, g, c.e, 1)
		g.Nodes = []api.Node{{Kind: api.KInput}, {Kind: api.KInput}, c.n, {Kind: 99}}
		checks(t, name, g, c.e, 2)
	}
}

// Two errors of one edge, by hand.
func TestP9_1_WhichOfAnEdge(t *testing.T) {
	for name, c := range map[string]struct {
		edge api.Edge
		e    api.Errno
	}{
		"no source, and no port":            {api.Edge{From: -1, To: 6, Port: 2}, api.ErrPort},
		"out of a sink, and a scope":        {api.Edge{From: 21, To: 6}, api.ErrPort},
		"out of a sink, and a loop":         {api.Edge{From: 22, To: 18}, api.ErrPort},
		"no port, and a scope":              {api.Edge{From: 0, To: 6, Port: 2}, api.ErrPort},
		"no port, and a loop":               {api.Edge{From: 19, To: 14, Port: 1, Exchange: true}, api.ErrPort},
		"no port, and no exchange":          {api.Edge{From: 0, To: 14, Port: 1}, api.ErrPort},
		"an input, and a scope":             {api.Edge{From: 5, To: 1}, api.ErrPort},
		"an input, and a loop":              {api.Edge{From: 2, To: 1}, api.ErrPort},
		"a scope, and a loop":               {api.Edge{From: 18, To: 6}, api.ErrScope},
		"a scope, and no exchange":          {api.Edge{From: 0, To: 9}, api.ErrScope},
		"a scope, and a port with an edge":  {api.Edge{From: 0, To: 6, Port: 1}, api.ErrScope},
		"a feedback's scope":                {api.Edge{From: 10, To: 6}, api.ErrScope},
		"a loop, and no exchange":           {api.Edge{From: 19, To: 14}, api.ErrLoop},
		"a loop, and a port with an edge":   {api.Edge{From: 20, To: 19, Exchange: true}, api.ErrLoop},
		"no exchange, and one with an edge": {api.Edge{From: 4, To: 14}, api.ErrArg},
		"a port with an edge alone":         {api.Edge{From: 4, To: 14, Exchange: true}, api.ErrPort},
	} {
		g := whole()
		g.Edges = append(g.Edges, c.edge, api.Edge{From: -1})
		checks(t, name, g, c.e, 24)
	}
}

// One number at a time of two graphs is set to each of many.
func TestP9_1_EachNumber(t *testing.T) {
	for _, g := range []api.Graph{plain(), whole()} {
		for _, at := range places(&g) {
			was := *at
			for _, n := range edgeNumbers {
				*at = n
				asSlow(t, "one number", g)
			}
			*at = was
		}
		for i := range g.Nodes {
			for _, arg := range []int64{least, -1, 0, 1, greatest} {
				was := g.Nodes[i].Arg
				g.Nodes[i].Arg = arg
				asSlow(t, "one number", g)
				g.Nodes[i].Arg = was
			}
		}
		for i := range g.Edges {
			g.Edges[i].Exchange = !g.Edges[i].Exchange
			asSlow(t, "one exchange", g)
			g.Edges[i].Exchange = !g.Edges[i].Exchange
		}
		checks(t, "all back", g, api.OK, 0)
	}
}

// Graphs that may run, as they are built by the rules, and what comes of them by some changes.
func TestP9_1_GraphsByChance(t *testing.T) {
	c := chance(9)
	many := map[api.Errno]int{}
	for i := range 20000 {
		g := c.runs()
		checks(t, "it may run", g, api.OK, 0)
		for range 1 + i%4 {
			c.spoil(&g)
			asSlow(t, "changed", g)
			e, _ := slowCheck(g)
			many[e]++
		}
	}
	for _, e := range []api.Errno{api.OK, api.ErrScope, api.ErrArg, api.ErrCode, api.ErrPort, api.ErrLoop} {
		if many[e] < 300 {
			t.Error(e, many[e])
		}
	}
}

// Graphs all of whose numbers are chance.
func TestP9_1_NoGraphs(t *testing.T) {
	c := chance(10)
	for range 20000 {
		var g api.Graph
		g.Parent, g.Bound = make([]int, c.below(5)), make([]int, c.below(5))
		if c.below(4) > 0 {
			g.Parent, g.Bound = []int{-1, 0, 1}[:1+c.below(3)], slices.Clone([]int{0, 1, 1})
			g.Bound = g.Bound[:len(g.Parent)]
		}
		g.Parent = slices.Clone(g.Parent)
		g.Nodes, g.Edges = make([]api.Node, c.below(5)), make([]api.Edge, c.below(5))
		for i := range g.Nodes {
			g.Nodes[i].Kind = 1 + c.below(15)
			g.Nodes[i].Scope = c.below(2)
		}
		for _, at := range places(&g) {
			if c.below(4) == 0 {
				*at = c.below(6) - 1
			}
		}
		asSlow(t, "chance", g)
	}
}
