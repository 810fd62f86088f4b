package valid_test

import (
	"fmt"
	"slices"
	"testing"

	"backwash/api"
	"backwash/valid"
)

func TestP9_1_HowManyOperators(t *testing.T) {
	for n := range 40 {
		g := plain()
		g.Nodes = slices.Repeat([]api.Node{{Kind: api.KInput}}, n)
		g.Edges = nil
		if 1 <= n && n <= 32 {
			checks(t, "inputs", g, api.OK, 0)
		} else {
			checks(t, "inputs", g, api.ErrLong, 0)
		}
	}
	g := plain()
	g.Nodes = make([]api.Node, 1<<16)
	checks(t, "many", g, api.ErrLong, 0)
	g.Nodes = []api.Node{}
	checks(t, "empty", g, api.ErrLong, 0)
}

// joins is an input with so many joins behind it: the most edges that a graph may run with.
func joins(n int) api.Graph { return down(1, slices.Repeat([]nature{kinds[api.KJoin-1]}, n)...) }

func TestP9_1_HowManyEdges(t *testing.T) {
	for n := range 32 {
		checks(t, "joins", joins(n), api.OK, 0)
	}
	g := joins(31)
	g.Edges = append(g.Edges, g.Edges[61])
	checks(t, "63 edges", g, api.ErrPort, 62)
	g.Edges = append(g.Edges, g.Edges[61])
	checks(t, "64 edges", g, api.ErrPort, 62)
	g.Edges = append(g.Edges, g.Edges[61])
	checks(t, "65 edges", g, api.ErrLong, 0)
	g.Edges = make([]api.Edge, 64)
	checks(t, "64 edges", g, api.ErrPort, 0)
	g.Edges = make([]api.Edge, 1<<16)
	checks(t, "many", g, api.ErrLong, 0)
	g.Nodes[0].Kind = 0
	checks(t, "too many edges ahead of an operator", g, api.ErrLong, 0)
	g.Edges = g.Edges[:64]
	checks(t, "an operator ahead of edges", g, api.ErrArg, 0)
}

func TestP9_1_Kinds(t *testing.T) {
	for _, kind := range edgeNumbers {
		for _, g := range []api.Graph{plain(), whole()} {
			for at := range g.Nodes {
				h := deep(g)
				h.Nodes[at].Kind = kind
				if kind < 1 || kind > 15 {
					checks(t, "none of the kinds", h, api.ErrArg, at)
				} else {
					asSlow(t, "another kind", h)
				}
			}
		}
	}
}

func TestP9_1_Ports(t *testing.T) {
	want := map[int]int{api.KProg: 1, api.KShift: 1, api.KKeep: 1, api.KConcat: 2, api.KSum: 1, api.KCount: 1, api.KDistinct: 1, api.KJoin: 2, api.KEnter: 1, api.KLeave: 1, api.KBack: 1, api.KInspect: 1, api.KTotal: 1, api.KSink: 1}
	for _, kind := range append(edgeNumbers, -5, 30, 1<<32+5, 1<<32+9) {
		if got := valid.Ports(kind); got != want[kind] {
			t.Errorf("Ports(%d) = %d, not %d", kind, got, want[kind])
		}
	}
}

func TestP9_1_ScopesThatAreThere(t *testing.T) {
	for _, scope := range edgeNumbers {
		g := whole()
		for at := range g.Nodes {
			h := deep(g)
			h.Nodes[at].Scope = scope
			if scope < 0 || scope > 3 {
				checks(t, "none of the scopes", h, api.ErrScope, at)
			} else {
				asSlow(t, "another scope", h)
			}
		}
		h := plain()
		h.Nodes[1] = api.Node{Kind: api.KInspect, Scope: scope}
		if scope == 0 {
			checks(t, "the only scope", h, api.OK, 0)
		} else {
			checks(t, "none of the scopes", h, api.ErrScope, 1)
		}
	}
}

// Which kinds may be in the first scope, and which in another one, at each depth.
func TestP9_1_KindsInScopes(t *testing.T) {
	for _, k := range kinds {
		for depth := 1; depth <= 4; depth++ {
			g := down(depth, k)
			at := len(g.Nodes) - 1
			onlyFirst := k.kind == api.KInput || k.kind == api.KSink
			onlyOther := k.kind == api.KEnter || k.kind == api.KLeave || k.kind == api.KBack
			if depth == 1 && onlyOther || depth > 1 && onlyFirst {
				checks(t, fmt.Sprint("kind ", k.kind), g, api.ErrScope, at)
			} else {
				checks(t, fmt.Sprint("kind ", k.kind), g, api.OK, 0)
			}
		}
	}
}

func TestP9_1_TheFirstOperatorsScope(t *testing.T) {
	for _, k := range kinds {
		for scope := range 4 {
			g := whole()
			g.Nodes[0] = right(k.kind, scope)
			switch {
			case scope > 0 || !k.first:
				checks(t, fmt.Sprint("kind ", k.kind), g, api.ErrScope, 0)
			case k.kind == api.KSink:
				checks(t, fmt.Sprint("kind ", k.kind), g, api.ErrPort, 0) // an edge leads out of it
			case k.ports > 0:
				checks(t, fmt.Sprint("kind ", k.kind), g, api.ErrPort, 0) // none leads to it
			default:
				checks(t, fmt.Sprint("kind ", k.kind), g, api.OK, 0)
			}
		}
	}
}

// row is a graph with an input, and operators in these scopes behind it, all without edges.
func row(parent []int, scopes ...int) api.Graph {
	g := onScopes(parent, append([]int{0}, slices.Repeat([]int{1}, len(parent)-1)...))
	g.Nodes, g.Edges = g.Nodes[:1], nil
	for _, s := range scopes {
		g.Nodes = append(g.Nodes, api.Node{Kind: api.KInspect, Scope: s})
	}
	return g
}

// fit asks that the scopes fit behind one another up to one of them (0: all fit), that of the input, which is the first, counted in. Where they fit, the first operator without an edge is found next.
func fit(t *testing.T, parent []int, at int, scopes ...int) {
	t.Helper()
	g := row(parent, scopes...)
	if at == 0 {
		checks(t, "they fit", g, api.ErrPort, 1)
	} else {
		checks(t, "they don't fit", g, api.ErrScope, at)
	}
}

func TestP9_1_ScopesFit(t *testing.T) {
	deep := []int{-1, 0, 1, 2}
	fit(t, deep, 0, 0)
	fit(t, deep, 0, 1)
	fit(t, deep, 1, 2)
	fit(t, deep, 1, 3)
	fit(t, deep, 0, 1, 1, 1)
	fit(t, deep, 0, 1, 2, 3)
	fit(t, deep, 2, 1, 3)
	fit(t, deep, 0, 1, 2, 3, 2, 1, 0)
	fit(t, deep, 0, 1, 2, 3, 0)
	fit(t, deep, 0, 1, 2, 3, 1)
	fit(t, deep, 0, 1, 2, 3, 2, 2, 0, 0)
	fit(t, deep, 0, 0, 0, 1, 0)
	fit(t, deep, 3, 1, 0, 1)       // entered once more
	fit(t, deep, 5, 1, 2, 1, 1, 2) // likewise
	fit(t, deep, 4, 1, 2, 0, 2)    // its parent was left
	fit(t, deep, 5, 1, 2, 3, 2, 3) // entered once more
	fit(t, deep, 6, 1, 2, 3, 2, 1, 2)
	fit(t, deep, 5, 1, 2, 3, 1, 3)
	fit(t, deep, 3, 1, 1, 3, 1, 0, 1) // the first one that doesn't fit
	wide := []int{-1, 0, 0, 1, 2, 1}
	fit(t, wide, 0, 1, 2)
	fit(t, wide, 0, 2, 1)
	fit(t, wide, 0, 2, 0, 1)
	fit(t, wide, 0, 1, 3, 5, 2, 4, 0)
	fit(t, wide, 0, 1, 5, 3, 1, 2)
	fit(t, wide, 0, 2, 4, 1, 3, 5)
	fit(t, wide, 0, 1, 3, 2)
	fit(t, wide, 2, 1, 4)          // its parent is beside
	fit(t, wide, 2, 2, 3)          // likewise
	fit(t, wide, 2, 2, 5)          // likewise
	fit(t, wide, 3, 1, 2, 1)       // entered once more, from beside
	fit(t, wide, 3, 1, 2, 3)       // its parent was left
	fit(t, wide, 4, 1, 3, 5, 3, 1) // entered once more
	fit(t, wide, 4, 1, 3, 2, 5)
	fit(t, wide, 1, 3)
	fit(t, wide, 1, 4)
}

// walk goes along the operators with the scopes that it is in, one in the other: it tells at which of them one can't be entered, or 0.
func walk(parent []int, scopes []int) int {
	in, was := []int{0}, map[int]int{0: 1}
	for i, s := range scopes {
		if s > 0 && was[s] == 0 {
			at := slices.Index(in, parent[s])
			if at < 0 {
				return i + 1
			}
			was[s] = 1
			in = append(in[:at+1:at+1], s)
		}
		at := slices.Index(in, s)
		if at < 0 {
			return i + 1
		}
		in = in[:at+1]
	}
	return 0
}

// All rows of up to six operators in up to five scopes, that lie in one another in several ways.
func TestP9_1_AllRowsOfScopes(t *testing.T) {
	for _, parent := range [][]int{{-1}, {-1, 0}, {-1, 0, 1, 2}, {-1, 0, 0, 0}, {-1, 0, 0, 1}, {-1, 0, 1, 0, 3}, {-1, 0, 1, 1, 0}, {-1, 0, 1, 2, 0}} {
		var try func(scopes []int)
		try = func(scopes []int) {
			if len(scopes) > 0 {
				fit(t, parent, walk(parent, scopes), scopes...)
				asSlow(t, "row", row(parent, scopes...))
			}
			if len(scopes) < 6 {
				for s := range parent {
					try(append(slices.Clone(scopes), s))
				}
			}
		}
		try(nil)
	}
}

func TestP9_1_Args(t *testing.T) {
	for _, k := range kinds {
		depth := 1
		if !k.first {
			depth = 2
		}
		for _, arg := range []int64{least, least + 1, -1 << 32, -2, -1, 0, 1, 2, 64, 1 << 32, greatest - 1, greatest} {
			g := down(depth, k)
			at := len(g.Nodes) - 1
			g.Nodes[at].Arg = arg
			if k.kind == api.KShift || k.kind == api.KKeep && arg >= 1 || k.kind != api.KKeep && arg == 0 {
				checks(t, fmt.Sprint("kind ", k.kind), g, api.OK, 0)
			} else {
				checks(t, fmt.Sprint("kind ", k.kind), g, api.ErrArg, at)
			}
		}
	}
}

func TestP9_1_Programs(t *testing.T) {
	for _, c := range []struct {
		code  []api.Ins
		right bool
	}{
		{nil, true},
		{[]api.Ins{}, true},
		{[]api.Ins{{Op: api.OpKey}}, true},
		{[]api.Ins{{Op: api.OpDrop}}, true}, // that its run has an error forbids nothing
		{[]api.Ins{{Op: api.OpJump, N: 1}}, true},
		{[]api.Ins{{Op: api.OpPush, N: -7}, {Op: api.OpEmit}}, true},
		{codeOf(api.OpEmit, 64), true},
		{codeOf(api.OpEmit, 65), false},
		{[]api.Ins{{}}, false},
		{[]api.Ins{{Op: 17}}, false},
		{[]api.Ins{{Op: -1}}, false},
		{[]api.Ins{{Op: api.OpKey, N: 1}}, false},
		{[]api.Ins{{Op: api.OpJump, N: 2}}, false},
		{[]api.Ins{{Op: api.OpKey}, {Op: api.OpZero, N: -1}}, false},
	} {
		for _, k := range kinds {
			depth := 1
			if !k.first {
				depth = 2
			}
			g := down(depth, k)
			at := len(g.Nodes) - 1
			g.Nodes[at].Prog = c.code
			if len(c.code) == 0 || k.kind == api.KProg && c.right {
				checks(t, fmt.Sprint("kind ", k.kind), g, api.OK, 0)
			} else {
				checks(t, fmt.Sprint("kind ", k.kind), g, api.ErrCode, at)
			}
		}
	}
}

// codeOf is a program of so many instructions.
func codeOf(op, n int) []api.Ins { return slices.Repeat([]api.Ins{{Op: op}}, n) }
