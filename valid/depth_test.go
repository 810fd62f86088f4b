package valid_test

import (
	"fmt"
	"math"
	"testing"

	"backwash/api"
	"backwash/valid"
)

// depths asks the depth of each scope, and at which ones each operator takes and gives; and that there are no others.
func depths(t *testing.T, g api.Graph, scopes, takes, gives []int) {
	t.Helper()
	checks(t, "depths", g, api.OK, 0)
	if len(scopes) != len(g.Parent) || len(takes) != len(g.Nodes) || len(gives) != len(g.Nodes) {
		t.Fatal("not as many")
	}
	for i, want := range scopes {
		if got := valid.Depth(g, i); got != want {
			t.Fatalf("Depth(%+v, %d) = %d, not %d", g, i, got, want)
		}
	}
	for i := range takes {
		if got := valid.Takes(g, i); got != takes[i] {
			t.Fatalf("Takes(%+v, %d) = %d, not %d", g, i, got, takes[i])
		}
		if got := valid.Gives(g, i); got != gives[i] {
			t.Fatalf("Gives(%+v, %d) = %d, not %d", g, i, got, gives[i])
		}
	}
	for _, i := range append([]int{len(scopes), len(scopes) + 1}, edgeNumbers...) {
		if i < 0 || i >= len(scopes) {
			if got := valid.Depth(g, i); got != 0 {
				t.Fatalf("Depth(%+v, %d) = %d, not 0", g, i, got)
			}
		}
	}
	for _, i := range append([]int{len(takes), len(takes) + 1}, edgeNumbers...) {
		if i < 0 || i >= len(takes) {
			if a, b := valid.Takes(g, i), valid.Gives(g, i); a != 0 || b != 0 {
				t.Fatalf("Takes, Gives(%+v, %d) = %d, %d, not 0, 0", g, i, a, b)
			}
		}
	}
}

func TestP9_2_ByHand(t *testing.T) {
	depths(t, plain(), []int{1}, []int{1, 1}, []int{1, 1})
	depths(t, whole(), []int{1, 2, 3, 2},
		[]int{1, 1, 1, 1, 1, 1, 2, 2, 3, 3, 3, 3, 2, 2, 1, 1, 2, 2, 1, 1, 1, 1, 1},
		[]int{1, 1, 1, 1, 1, 2, 2, 3, 3, 3, 3, 2, 2, 1, 1, 2, 2, 1, 1, 1, 1, 1, 1})
}

func TestP9_2_Scopes(t *testing.T) {
	one := []int{1, 1}
	depths(t, onScopes([]int{-1, 0, 1, 2}, []int{0, 1, 64, 1}), []int{1, 2, 3, 4}, one, one)
	depths(t, onScopes([]int{-1, 0, 0, 0, 0, 0, 0, 0}, []int{0, 1, 1, 1, 1, 1, 1, 1}), []int{1, 2, 2, 2, 2, 2, 2, 2}, one, one)
	depths(t, onScopes([]int{-1, 0, 0, 1, 2, 3, 4, 0}, []int{0, 9, 8, 7, 6, 5, 4, 3}), []int{1, 2, 2, 3, 3, 4, 4, 2}, one, one)
	depths(t, onScopes([]int{-1, 0, 1, 1, 2, 0, 5, 3}, []int{0, 9, 8, 7, 6, 5, 4, 3}), []int{1, 2, 3, 3, 4, 2, 3, 4}, one, one)
}

// All ways in which scopes may lie in one another.
func TestP9_2_AllTreesOfScopes(t *testing.T) {
	var try func(parent, depth []int)
	try = func(parent, depth []int) {
		bound := make([]int, len(parent))
		for i := 1; i < len(bound); i++ {
			bound[i] = i
		}
		depths(t, onScopes(parent, bound), depth, []int{1, 1}, []int{1, 1})
		if len(parent) == 7 {
			return
		}
		for p, d := range depth {
			if d < 4 {
				try(append(parent[:len(parent):len(parent)], p), append(depth[:len(depth):len(depth)], d+1))
			}
		}
	}
	try([]int{-1}, []int{1})
}

// Each kind, in a scope of each depth in which it may be.
func TestP9_2_Kinds(t *testing.T) {
	for depth := 1; depth <= 4; depth++ {
		for _, k := range kinds {
			if depth == 1 && !k.first || depth > 1 && !k.other {
				continue
			}
			scopes, takes, gives := []int{1}, []int{1}, []int{1}
			for d := 2; d <= depth; d++ {
				scopes, takes, gives = append(scopes, d), append(takes, d-1), append(gives, d)
			}
			switch k.kind {
			case api.KEnter:
				takes, gives = append(takes, depth-1), append(gives, depth)
			case api.KLeave:
				takes, gives = append(takes, depth), append(gives, depth-1)
			default:
				takes, gives = append(takes, depth), append(gives, depth)
			}
			depths(t, down(depth, k), scopes, takes, gives)
		}
	}
}

// slowDepth counts the ways up from a scope.
func slowDepth(g api.Graph, scope int) int { return len(slowUp(g, scope)) }

func TestP9_2_GraphsByChance(t *testing.T) {
	c := chance(11)
	for range 5000 {
		g := c.runs()
		var scopes, takes, gives []int
		for i := range g.Parent {
			scopes = append(scopes, slowDepth(g, i))
		}
		for _, n := range g.Nodes {
			takes = append(takes, slowDepth(g, slowTakes(g, n)))
			gives = append(gives, slowDepth(g, slowGives(g, n)))
		}
		depths(t, g, scopes, takes, gives)
	}
}

// What leads out of an operator has as many coordinates as what comes to the one behind it.
func TestP9_2_DepthsAlongEdges(t *testing.T) {
	c := chance(12)
	for range 5000 {
		g := c.runs()
		for _, e := range g.Edges {
			if valid.Gives(g, e.From) != valid.Takes(g, e.To) {
				t.Fatalf("%+v: along %+v", g, e)
			}
		}
	}
}

// Of a graph that may not run nothing is promised, but that the calls end and none panics; of what isn't there they find nothing.
func TestP9_2_GraphsThatMayNotRun(t *testing.T) {
	for name, g := range map[string]api.Graph{
		"nothing":                    {},
		"operators alone":            {Nodes: []api.Node{{Kind: api.KInput}, {Kind: api.KEnter, Scope: 1}, {Kind: api.KLeave, Scope: 1}}},
		"its own parent":             {Parent: []int{0, 1}},
		"two that are one another's": {Parent: []int{-1, 2, 1}},
		"a way around of four":       {Parent: []int{3, 0, 1, 2}},
		"parents far outside":        {Parent: []int{math.MinInt, math.MaxInt, -2, 1 << 32}},
		"scopes far outside":         {Parent: []int{-1}, Nodes: []api.Node{{Kind: api.KEnter, Scope: math.MinInt}, {Kind: api.KLeave, Scope: math.MaxInt}, {Kind: api.KEnter, Scope: -1}, {Kind: api.KSum, Scope: 1}}},
		"scopes just outside":        {Parent: []int{-1, 0}, Nodes: []api.Node{{Kind: api.KEnter, Scope: 2}, {Kind: api.KLeave, Scope: 2}, {Kind: api.KSum, Scope: 2}}},
		"across the first scope":     {Parent: []int{-1}, Nodes: []api.Node{{Kind: api.KEnter}, {Kind: api.KLeave}, {Kind: 99}, {Kind: -1, Scope: -1}}},
		"more bounds than scopes":    {Bound: []int{0, 1}, Nodes: []api.Node{{Scope: 1}}},
		"many scopes":                {Parent: make([]int, 1<<16)},
	} {
		for _, i := range append(edgeNumbers, -7, 1<<16-1, 1<<16) {
			a, b, c := valid.Depth(g, i), valid.Takes(g, i), valid.Gives(g, i)
			if (i < 0 || i >= len(g.Parent)) && a != 0 || (i < 0 || i >= len(g.Nodes)) && (b != 0 || c != 0) {
				t.Error(fmt.Sprint(name, " at ", i), a, b, c)
			}
		}
		valid.Check(g)
	}
}
