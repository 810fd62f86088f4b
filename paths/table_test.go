package paths_test

import (
	"math"
	"slices"
	"testing"

	"backwash/api"
	"backwash/paths"
	"backwash/valid"
)

func TestP10_1_TableOfManyGraphs(t *testing.T) {
	seen := map[int]int{}
	deepest := 0
	many(func(g api.Graph) {
		p, _ := asSlow(t, g)
		for n, row := range p {
			deepest = max(deepest, takesAt(g, n))
			for _, steps := range row {
				seen[len(steps)]++
			}
		}
	})
	if deepest < 4 || min(seen[0], seen[1], seen[2], seen[3]) < 20 {
		t.Errorf("too few kinds of graphs: depth %d, lists %v", deepest, seen)
	}
}

func TestP10_1_TableOfPlain(t *testing.T) {
	g := plain()
	p := tableOf(t, g)
	same := step(1, l(0), nil)
	asSteps(t, g, p, 0, 0, same)
	asSteps(t, g, p, 0, 1, same)
	asSteps(t, g, p, 1, 1, same)
	asSteps(t, g, p, 1, 0)
	alone := api.Graph{Parent: []int{-1}, Bound: []int{0}, Nodes: []api.Node{{Kind: api.KInput}}}
	asSteps(t, alone, tableOf(t, alone), 0, 0, same)
}

func TestP10_1_TableOfEachOperatorToItself(t *testing.T) {
	many(func(g api.Graph) {
		p := tableOf(t, g)
		for n := range p {
			d := takesAt(g, n)
			if !slices.Contains(p[n][n], step(d, make([]int, d), nil)) {
				t.Fatalf("from %d to itself: %v, of %+v", n, p[n][n], g)
			}
		}
	})
}

// leads asks between which operators there is a way: of each one a row of ones and noughts.
func leads(t *testing.T, g api.Graph, rows ...string) {
	t.Helper()
	p := tableOf(t, g)
	for n, row := range rows {
		for m, want := range row {
			if len(p[n][m]) > 0 != (want == '1') {
				t.Errorf("from %d to %d: %v, of %+v", n, m, p[n][m], g)
			}
		}
	}
}

func TestP10_1_TableWithoutAWay(t *testing.T) {
	leads(t, plain(), "11", "01")
	twice := plain()
	twice.Nodes = append(twice.Nodes, twice.Nodes...)
	twice.Edges = append(twice.Edges, api.Edge{From: 2, To: 3})
	leads(t, twice, "1100", "0100", "0011", "0001")
	leads(t, loop(), "111111", "011111", "001111", "001111", "000011", "000001")
	leads(t, diamond(), "111111", "011011", "001011", "000111", "000011", "000001")
}

// line is a graph that is put together operator by operator, each taking from the last one.
type line struct {
	api.Graph
	scope int
}

// deeper opens a scope within the line's.
func (x *line) deeper() {
	x.Parent, x.Bound = append(x.Parent, x.scope), append(x.Bound, 2)
	x.scope = len(x.Parent) - 1
}

// lead to one more operator, in the line's scope.
func (x *line) lead(kind int) {
	n := api.Node{Kind: kind, Scope: x.scope}
	if kind == api.KKeep {
		n.Arg = 7
	}
	for port := range valid.Ports(kind) {
		x.Edges = append(x.Edges, api.Edge{From: len(x.Nodes) - 1, To: len(x.Nodes), Port: port, Exchange: true})
	}
	x.Nodes = append(x.Nodes, n)
}

// lineTo is a line down to a depth.
func lineTo(depth int) *line {
	x := &line{Graph: api.Graph{Parent: []int{-1}, Bound: []int{0}}}
	x.lead(api.KInput)
	for range depth - 1 {
		x.deeper()
		x.lead(api.KEnter)
	}
	return x
}

// Each kind of edge, out of each depth, to an inspect: the only way along it.
func TestP10_1_TableOfEachKindOfEdge(t *testing.T) {
	for depth := 1; depth <= 4; depth++ {
		for kind := api.KInput; kind < api.KSink; kind++ {
			x := lineTo(depth)
			add := make([]int, depth)
			want := step(depth, add, nil)
			switch {
			case kind == api.KInput && depth > 1, kind == api.KEnter && depth == 4, kind == api.KLeave && depth == 1, kind == api.KBack && depth == 1:
				continue
			case kind == api.KEnter:
				x.deeper()
				want = step(depth, add, l(0))
			case kind == api.KLeave:
				want = step(depth, add[1:], nil)
			case kind == api.KBack:
				add[depth-1] = 1
				want = step(depth, add, nil)
			}
			x.lead(kind)
			if kind == api.KLeave {
				x.scope = x.Parent[x.scope]
			}
			x.lead(api.KInspect)
			p, _ := asSlow(t, x.Graph)
			asSteps(t, x.Graph, p, len(p)-2, len(p)-1, want)
		}
	}
}

func TestP10_1_TableOfALoop(t *testing.T) {
	g := loop()
	p := tableOf(t, g)
	asSteps(t, g, p, 0, 1, step(1, l(0), nil))
	asSteps(t, g, p, 0, 2, step(1, l(0), l(0)))
	asSteps(t, g, p, 0, 3, step(1, l(0), l(0)))
	asSteps(t, g, p, 0, 5, step(1, l(0), nil))
	asSteps(t, g, p, 1, 1, step(1, l(0), nil))
	asSteps(t, g, p, 1, 4, step(1, l(0), l(0)))
	asSteps(t, g, p, 2, 2, step(2, l(0, 0), nil))
	asSteps(t, g, p, 2, 3, step(2, l(0, 0), nil))
	asSteps(t, g, p, 2, 5, step(2, l(0), nil))
	asSteps(t, g, p, 3, 2, step(2, l(0, 1), nil))
	asSteps(t, g, p, 3, 3, step(2, l(0, 0), nil))
	asSteps(t, g, p, 3, 4, step(2, l(0, 1), nil))
	asSteps(t, g, p, 3, 5, step(2, l(0), nil))
	asSteps(t, g, p, 4, 5, step(2, l(0), nil))
	asSteps(t, g, p, 4, 2)
	asSteps(t, g, p, 2, 1)
	asSteps(t, g, p, 5, 0)
	g = loop()
	g.Nodes[4] = api.Node{Kind: api.KBack, Scope: 1}
	g.Nodes[5] = api.Node{Kind: api.KInspect, Scope: 1}
	g.Edges[4].From = 3
	p = tableOf(t, g)
	asSteps(t, g, p, 3, 5, step(2, l(0, 2), nil))
	asSteps(t, g, p, 2, 5, step(2, l(0, 2), nil))
	asSteps(t, g, p, 1, 5, step(1, l(0), l(2)))
}

func TestP10_1_TableOfALoopWithinALoop(t *testing.T) {
	g := nested()
	p := tableOf(t, g)
	same, outer, outmost := step(4, l(0, 0, 0, 0), nil), step(4, l(0, 0, 1), l(0)), step(4, l(0, 1), l(0, 0))
	asSteps(t, g, p, 6, 6, same, outer, outmost)
	asSteps(t, g, p, 6, 7, same, outer, outmost)
	asSteps(t, g, p, 7, 7, same, outer, outmost)
	asSteps(t, g, p, 7, 6, step(4, l(0, 0, 0, 1), nil), outer, outmost)
	asSteps(t, g, p, 6, 5, step(4, l(0, 0, 1), nil), step(4, l(0, 1), l(0)))
	asSteps(t, g, p, 8, 6, outer, outmost)
	asSteps(t, g, p, 9, 4, step(3, l(0, 0, 1), nil), step(3, l(0, 1), l(0)))
	asSteps(t, g, p, 4, 4, step(3, l(0, 0, 0), nil), step(3, l(0, 1), l(0)))
	asSteps(t, g, p, 5, 5, step(3, l(0, 0, 0), nil), step(3, l(0, 1), l(0)))
	asSteps(t, g, p, 5, 6, step(3, l(0, 0, 0), l(0)), step(3, l(0, 1), l(0, 0)))
	asSteps(t, g, p, 3, 3, step(2, l(0, 0), nil))
	asSteps(t, g, p, 2, 6, step(2, l(0, 0), l(0, 0)))
	asSteps(t, g, p, 10, 6, step(3, l(0, 1), l(0, 0)))
	asSteps(t, g, p, 11, 6, step(2, l(0, 1), l(0, 0)))
	asSteps(t, g, p, 0, 6, step(1, l(0), l(0, 0, 0)))
	asSteps(t, g, p, 6, 13, step(4, l(0), nil))
	asSteps(t, g, p, 6, 2, step(4, l(0, 1), nil))
	asSteps(t, g, p, 6, 1)
	asSteps(t, g, p, 12, 6)
}

func TestP10_1_TableOfTwoWays(t *testing.T) {
	g := forks()
	p := tableOf(t, g)
	asSteps(t, g, p, 4, 7, step(3, l(0, 0, 1), nil), step(3, l(0, 1), l(0)))
	asSteps(t, g, p, 5, 7, step(3, l(0, 0, 1), nil))
	asSteps(t, g, p, 3, 7, step(2, l(0, 0), l(1)), step(2, l(0, 1), l(0)))
	asSteps(t, g, p, 1, 7, step(1, l(0), l(0, 0)))
	asSteps(t, g, p, 4, 4, step(3, l(0, 0, 0), nil))
	g = diamond()
	p = tableOf(t, g)
	asSteps(t, g, p, 0, 4, step(1, l(0), nil))
	asSteps(t, g, p, 0, 5, step(1, l(0), nil))
	g.Edges = []api.Edge{{From: 0, To: 1}, {From: 1, To: 2}, {From: 0, To: 3}, {From: 3, To: 4}, {From: 3, To: 4, Port: 1}, {From: 4, To: 5}}
	p = tableOf(t, g)
	asSteps(t, g, p, 3, 4, step(1, l(0), nil))
	asSteps(t, g, p, 0, 2, step(1, l(0), nil))
	asSteps(t, g, p, 2, 4)
}

// The order of a list is its steps' own: those of the edges and of the operators' kinds don't matter to it.
func TestP10_1_TableWhateverTheOrderOfEdges(t *testing.T) {
	c := chance(4)
	many(func(g api.Graph) {
		p := paths.Table(g)
		if !sameTable(p, paths.Table(g)) {
			t.Fatalf("not the same once more: %+v", g)
		}
		h := g
		h.Edges = slices.Clone(g.Edges)
		for range 3 {
			for i := range h.Edges {
				j := i + c.below(len(h.Edges)-i)
				h.Edges[i], h.Edges[j] = h.Edges[j], h.Edges[i]
			}
			if !sameTable(p, paths.Table(h)) {
				t.Fatalf("not the same with the edges in another order: %+v", g)
			}
		}
		slices.Reverse(h.Edges)
		if !sameTable(p, paths.Table(h)) {
			t.Fatalf("not the same with the edges turned around: %+v", g)
		}
	})
}

// full is a graph of 32 operators in 8 scopes: in each of the others an enter, all other operators with two ports, from an earlier one or from a KBack.
func full(backs int) api.Graph {
	g := api.Graph{Parent: []int{-1, 0, 1, 2, 2, 1, 5, 0}, Bound: []int{0, 64, 64, 64, 64, 64, 64, 64}, Nodes: []api.Node{{Kind: api.KInput}}}
	for scope := 1; scope < 8; scope++ {
		g.Nodes = append(g.Nodes, api.Node{Kind: api.KEnter, Scope: scope})
		for i := range 3 {
			kind := api.KConcat
			if i < backs {
				kind = api.KBack
			}
			g.Nodes = append(g.Nodes, api.Node{Kind: kind, Scope: scope})
		}
		switch scope {
		case 3, 4, 6, 7:
			g.Nodes[len(g.Nodes)-1].Kind = api.KLeave
		}
	}
	for len(g.Nodes) < 32 {
		g.Nodes = append(g.Nodes, api.Node{Kind: api.KConcat})
	}
	for i, n := range g.Nodes {
		for port := range valid.Ports(n.Kind) {
			from := sources(g, i)
			at := len(from) - 1
			if port == 1 {
				at = len(from) / 2
			}
			g.Edges = append(g.Edges, api.Edge{From: from[at], To: i, Port: port})
		}
	}
	return g
}

func TestP10_1_TableOfAsMuchAsThereMayBe(t *testing.T) {
	for backs := range 3 {
		g := full(backs)
		if len(g.Nodes) != 32 || len(g.Parent) != 8 {
			t.Fatal(g)
		}
		asSlow(t, g)
	}
	g := api.Graph{Parent: []int{-1}, Bound: []int{0}, Nodes: []api.Node{{Kind: api.KInput}}}
	for i := 1; i < 32; i++ {
		g.Nodes = append(g.Nodes, api.Node{Kind: api.KConcat})
		g.Edges = append(g.Edges, api.Edge{From: i - 1, To: i}, api.Edge{From: i / 2, To: i, Port: 1})
	}
	p, _ := asSlow(t, g)
	asSteps(t, g, p, 0, 31, step(1, l(0), nil))
	// As far around as there are KBacks.
	g = api.Graph{Parent: []int{-1, 0}, Bound: []int{0, 1}, Nodes: []api.Node{{Kind: api.KInput}, {Kind: api.KEnter, Scope: 1}}, Edges: []api.Edge{{From: 0, To: 1}}}
	for i := 2; i < 32; i++ {
		g.Nodes = append(g.Nodes, api.Node{Kind: api.KBack, Scope: 1})
		g.Edges = append(g.Edges, api.Edge{From: i - 1, To: i})
	}
	p, _ = asSlow(t, g)
	asSteps(t, g, p, 1, 31, step(1, l(0), l(29)))
	asSteps(t, g, p, 2, 31, step(2, l(0, 29), nil))
	g.Edges[1].From = 31
	p, _ = asSlow(t, g)
	asSteps(t, g, p, 31, 30, step(2, l(0, 29), nil))
	asSteps(t, g, p, 0, 2)
}

// faults are graphs that may not run.
type faults []api.Graph

// spoilt puts some graphs to the others, each with a fault in it.
func (f *faults) spoilt(spoil func(g *api.Graph)) {
	for _, g := range []api.Graph{loop(), nested(), every()} {
		spoil(&g)
		*f = append(*f, g)
	}
}

// set puts some graphs to the others, each with one of the numbers at a place.
func (f *faults) set(at func(g *api.Graph) *int, numbers ...int) {
	for _, n := range numbers {
		f.spoilt(func(g *api.Graph) { *at(g) = n })
	}
}

// scopes that may not be.
func (f *faults) scopes() {
	f.spoilt(func(g *api.Graph) { g.Parent, g.Bound = nil, nil })
	f.spoilt(func(g *api.Graph) { g.Bound = g.Bound[1:] })
	f.spoilt(func(g *api.Graph) {
		for len(g.Parent) < 9 {
			g.Parent, g.Bound = append(g.Parent, 0), append(g.Bound, 1)
		}
	})
	f.spoilt(func(g *api.Graph) { g.Parent, g.Bound = []int{-1, 0, 1, 2, 3}, []int{0, 1, 1, 1, 1} })
	f.set(func(g *api.Graph) *int { return &g.Parent[0] }, 0, -2, 1)
	f.set(func(g *api.Graph) *int { return &g.Parent[1] }, -1, 1, math.MaxInt, math.MinInt)
	f.set(func(g *api.Graph) *int { return &g.Bound[0] }, 1, -1)
	f.set(func(g *api.Graph) *int { return &g.Bound[1] }, 0, 65, -1)
}

// nodes that may not be.
func (f *faults) nodes() {
	f.spoilt(func(g *api.Graph) { g.Nodes = nil })
	f.spoilt(func(g *api.Graph) {
		for len(g.Nodes) < 33 {
			g.Nodes = append(g.Nodes, api.Node{Kind: api.KInput})
		}
	})
	f.set(func(g *api.Graph) *int { return &g.Nodes[2].Kind }, 0, 16, -1, math.MaxInt)
	f.set(func(g *api.Graph) *int { return &g.Nodes[2].Scope }, -1, 8, math.MaxInt, math.MinInt)
	f.set(func(g *api.Graph) *int { return &g.Nodes[0].Scope }, 1)
	f.spoilt(func(g *api.Graph) { g.Nodes[0].Arg = 1 })
	f.spoilt(func(g *api.Graph) { g.Nodes[0].Prog = []api.Ins{{Op: api.OpKey}} })
	f.spoilt(func(g *api.Graph) { g.Nodes[2] = api.Node{Kind: api.KKeep, Scope: g.Nodes[2].Scope} })
	f.spoilt(func(g *api.Graph) {
		g.Nodes[2] = api.Node{Kind: api.KProg, Scope: g.Nodes[2].Scope, Prog: []api.Ins{{Op: 17}}}
	})
	f.spoilt(func(g *api.Graph) {
		for i := range g.Nodes {
			if g.Nodes[i].Kind == api.KBack {
				g.Nodes[i].Kind = api.KInspect
			}
		}
	})
}

// edges that may not be.
func (f *faults) edges() {
	f.spoilt(func(g *api.Graph) { g.Edges = slices.Repeat(g.Edges, 13)[:65] })
	f.set(func(g *api.Graph) *int { return &g.Edges[0].From }, -1, 32, 5, math.MaxInt, math.MinInt)
	f.set(func(g *api.Graph) *int { return &g.Edges[0].To }, -1, 32, 0, math.MaxInt, math.MinInt)
	f.set(func(g *api.Graph) *int { return &g.Edges[0].Port }, -1, 1, 2)
	f.spoilt(func(g *api.Graph) { g.Edges[1] = g.Edges[0] })
	f.spoilt(func(g *api.Graph) { g.Edges = g.Edges[1:] })
	f.spoilt(func(g *api.Graph) { g.Edges = nil })
	f.spoilt(func(g *api.Graph) {
		for i, e := range g.Edges {
			g.Edges[i].Exchange = false
			if g.Nodes[e.To].Kind == api.KConcat {
				g.Nodes[e.To].Kind = api.KJoin
			}
		}
	})
}

// faulty are graphs that may not run, each of another reason.
func faulty() []api.Graph {
	f := faults{{}}
	f.scopes()
	f.nodes()
	f.edges()
	return f
}

func TestP10_1_NoTableOfGraphsThatMayNotRun(t *testing.T) {
	seen := map[api.Errno]int{}
	for _, g := range faulty() {
		e, _ := valid.Check(g)
		seen[e]++
		if e == api.OK || len(paths.Table(g)) != 0 {
			t.Errorf("%d: %v of %+v", e, paths.Table(g), g)
		}
	}
	for _, e := range []api.Errno{api.ErrScope, api.ErrLong, api.ErrArg, api.ErrCode, api.ErrPort, api.ErrLoop} {
		if seen[e] == 0 {
			t.Errorf("none with the error %d", e)
		}
	}
}

// Graphs by chance with some number changed: there is a table just if they may run.
func TestP10_1_TableJustOfGraphsThatMayRun(t *testing.T) {
	c := chance(5)
	runs, not := 0, 0
	for range 1500 {
		g := c.graph(2 + c.below(10))
		i, j := c.below(len(g.Nodes)), c.below(len(g.Edges)+1)
		n := c.below(14) - 1
		switch c.below(5) {
		case 0:
			g.Nodes[i].Kind = n
		case 1:
			g.Nodes[i].Scope = n
		case 2:
			g.Edges = append(g.Edges[:j:j], g.Edges[min(j+1, len(g.Edges)):]...)
		default:
			if j < len(g.Edges) {
				g.Edges[j].From = n
			}
		}
		if e, _ := valid.Check(g); e != api.OK {
			not++
			if p := paths.Table(g); len(p) != 0 {
				t.Fatalf("%d: %v of %+v", e, p, g)
			}
			continue
		}
		runs++
		asSlow(t, g)
	}
	if min(runs, not) < 100 {
		t.Error(runs, not)
	}
}
