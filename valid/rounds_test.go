package valid_test

import (
	"slices"
	"testing"

	"backwash/api"
	"backwash/valid"
)

// goesAround tells whether there is a way around in a graph, over all operators or over those that are no KBack: it takes away what nothing comes to, again and again, till nothing goes.
func goesAround(g api.Graph, backs bool) bool {
	left := map[int]int{}
	for i, n := range g.Nodes {
		if backs || n.Kind != api.KBack {
			left[i] = 1
		}
	}
	for was := len(left) + 1; len(left) < was; {
		was = len(left)
		for i := range g.Nodes {
			comes := slices.ContainsFunc(g.Edges, func(e api.Edge) bool { return e.To == i && left[e.From] == 1 })
			if left[i] == 1 && !comes {
				delete(left, i)
			}
		}
	}
	return len(left) > 0
}

// seen counts the graphs of a test: which may run, and of these those with a way around; which may not, but have their edges between what is there.
type seen struct {
	runs, around, forbidden int
}

// look asks that in a graph that may run each way around goes through a KBack.
func (s *seen) look(t *testing.T, g api.Graph) {
	t.Helper()
	e, at := valid.Check(g)
	bad := goesAround(g, false)
	switch {
	case e == api.OK && bad:
		t.Fatalf("it may run, with a way around without a KBack: %+v", g)
	case e == api.OK:
		s.runs++
		if goesAround(g, true) {
			s.around++
		}
	case bad:
		s.forbidden++
		if e == api.ErrLoop && g.Edges[at].To > g.Edges[at].From {
			t.Fatalf("no edge that goes back: %+v at %d", g, at)
		}
	}
}

// enough asks that the test has seen what it is about.
func (s seen) enough(t *testing.T, many int) {
	t.Helper()
	if min(s.runs, s.around, s.forbidden) < many {
		t.Errorf("%+v", s)
	}
}

func TestP9_3_WaysAroundByHand(t *testing.T) {
	for _, g := range []api.Graph{plain(), whole()} {
		if goesAround(g, false) || goesAround(g, true) != (len(g.Parent) > 1) {
			t.Fatal(g)
		}
	}
	g := whole()
	g.Nodes[10].Kind, g.Nodes[12].Kind = api.KInspect, api.KInspect
	checks(t, "around without a feedback", g, api.ErrLoop, 5)
	g.Nodes[12].Kind = api.KBack
	checks(t, "around without one within", g, api.ErrLoop, 8)
	g.Nodes[10].Kind, g.Nodes[12].Kind = api.KBack, api.KInspect
	checks(t, "around without one outside", g, api.ErrLoop, 5)
	for scope := range 2 {
		g := onScopes([]int{-1, 0}, []int{0, 1})
		g.Nodes = []api.Node{{Kind: api.KInput}, {Kind: api.KConcat, Scope: scope}, {Kind: api.KConcat, Scope: scope}}
		g.Edges = []api.Edge{{From: 2, To: 1}, {From: 2, To: 1, Port: 1}, {From: 1, To: 2}, {From: 1, To: 2, Port: 1}}
		checks(t, "around of two", g, api.ErrLoop, 0)
	}
}

// All graphs of a loop whose edges come from all of the operators.
func TestP9_3_AllEdgesOfALoop(t *testing.T) {
	g := onScopes([]int{-1, 0}, []int{0, 3})
	g.Nodes = []api.Node{{Kind: api.KInput}, {Kind: api.KEnter, Scope: 1}, {Kind: api.KConcat, Scope: 1}, {Kind: api.KInspect, Scope: 1}, {Kind: api.KBack, Scope: 1}, {Kind: api.KLeave, Scope: 1}}
	g.Edges = []api.Edge{{To: 1}, {To: 2}, {To: 2, Port: 1}, {To: 3}, {To: 4}, {To: 5}}
	var s seen
	var try func(at int)
	try = func(at int) {
		if at == len(g.Edges) {
			s.look(t, g)
			asSlow(t, "a loop", g)
			return
		}
		for from := range g.Nodes {
			g.Edges[at].From = from
			try(at + 1)
		}
	}
	try(0)
	s.enough(t, 100)
}

// Graphs that may run, and what comes of them when edges are led from elsewhere.
func TestP9_3_GraphsByChance(t *testing.T) {
	c := chance(13)
	var s seen
	for range 8000 {
		g := c.runs()
		s.look(t, g)
		for range 4 {
			if len(g.Edges) > 0 {
				e := &g.Edges[c.below(len(g.Edges))]
				e.From = c.below(len(g.Nodes))
				s.look(t, g)
			}
		}
		for range 2 {
			c.spoil(&g)
			s.look(t, g)
		}
	}
	s.enough(t, 1000)
}

// In these each edge comes from an operator that gives in the right scope, wherever it stands: only ways around forbid them.
func TestP9_3_FromAnywhereInItsScope(t *testing.T) {
	c := chance(14)
	var s seen
	for range 8000 {
		g := c.runs()
		for i, e := range g.Edges {
			var from []int
			for j, n := range g.Nodes {
				if n.Kind != api.KSink && slowGives(g, n) == slowTakes(g, g.Nodes[e.To]) {
					from = append(from, j)
				}
			}
			if c.below(4) == 0 {
				g.Edges[i].From = from[c.below(len(from))]
			}
		}
		s.look(t, g)
		if e, _ := valid.Check(g); e != api.OK && e != api.ErrLoop {
			t.Fatalf("%d: %+v", e, g)
		}
	}
	s.enough(t, 500)
}
