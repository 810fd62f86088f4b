package valid_test

import (
	"fmt"
	"math"
	"slices"
	"testing"

	"backwash/api"
)

func TestP9_1_EndsOfEdges(t *testing.T) {
	for _, g := range []api.Graph{plain(), whole()} {
		n := len(g.Nodes)
		for at := range g.Edges {
			for _, end := range append(edgeNumbers, n-1, n, n+1) {
				from, to := deep(g), deep(g)
				from.Edges[at].From = end
				to.Edges[at].To = end
				if end < 0 || end >= n {
					checks(t, "from none", from, api.ErrPort, at)
					checks(t, "to none", to, api.ErrPort, at)
				} else {
					asSlow(t, "from another one", from)
					asSlow(t, "to another one", to)
				}
			}
		}
	}
}

func TestP9_1_OutOfASink(t *testing.T) {
	g := plain()
	g.Nodes = append(g.Nodes, api.Node{Kind: api.KSink}, api.Node{Kind: api.KInspect})
	g.Edges = []api.Edge{{From: 0, To: 2}, {From: 0, To: 1}, {From: 1, To: 3}}
	checks(t, "out of a sink", g, api.ErrPort, 2)
	g.Edges[2].From = 2
	checks(t, "out of the other one", g, api.ErrPort, 2)
	g.Edges[2].From = 0
	checks(t, "out of the input", g, api.OK, 0)
	g.Edges[1].From = 1
	checks(t, "to itself", g, api.ErrPort, 1)
}

func TestP9_1_PortsOfEdges(t *testing.T) {
	ports := map[int]int{api.KInput: 0, api.KConcat: 2, api.KJoin: 2}
	for _, k := range kinds {
		many, ok := ports[k.kind]
		if !ok {
			many = 1
		}
		depth := 1
		if !k.first {
			depth = 2
		}
		for _, port := range edgeNumbers {
			g := down(depth, kinds[api.KInspect-1], k)
			node := len(g.Nodes) - 1
			g.Edges = slices.DeleteFunc(g.Edges, func(e api.Edge) bool { return e.To == node })
			from := depth - 1
			if k.enters {
				from--
			}
			at := len(g.Edges)
			g.Edges = append(g.Edges, api.Edge{From: from, To: node, Port: port, Exchange: true})
			switch {
			case port < 0 || port >= many:
				checks(t, fmt.Sprint("kind ", k.kind), g, api.ErrPort, at)
			case many == 2:
				checks(t, fmt.Sprint("kind ", k.kind), g, api.ErrPort, node)
				g.Edges = append(g.Edges, api.Edge{From: from, To: node, Port: 1 - port, Exchange: true})
				checks(t, fmt.Sprint("kind ", k.kind), g, api.OK, 0)
			default:
				checks(t, fmt.Sprint("kind ", k.kind), g, api.OK, 0)
			}
		}
	}
}

// pair is a graph with two operators in two of five scopes (0, in it 1, in that 2; 3 in 1; 4 in 0) and one edge from the one to the other; false, if there is none, since their kinds or their scopes don't fit.
func pair(from, to nature, a, b int) (api.Graph, bool) {
	for _, x := range []struct {
		k     nature
		scope int
	}{{from, a}, {to, b}} {
		if x.scope == 0 && !x.k.first || x.scope > 0 && !x.k.other {
			return api.Graph{}, false
		}
	}
	parent := []int{-1, 0, 1, 1, 0}
	ways := map[int][]int{0: nil, 1: nil, 2: {1}, 3: {1}, 4: nil}
	g := row(parent, ways[a]...)
	g.Nodes = append(g.Nodes, right(from.kind, a))
	one := len(g.Nodes) - 1
	for _, s := range ways[b] {
		if a == 0 || a == 4 {
			g.Nodes = append(g.Nodes, api.Node{Kind: api.KInspect, Scope: s})
		}
	}
	g.Nodes = append(g.Nodes, right(to.kind, b))
	g.Edges = []api.Edge{{From: one, To: len(g.Nodes) - 1, Exchange: true}}
	return g, true
}

// Between the scopes of each pair of kinds there is an edge just where the one gives in that scope in which the other one takes.
func TestP9_1_ScopesOfEdges(t *testing.T) {
	up := []int{-1, 0, 1, 1, 0}
	many := map[api.Errno]int{}
	for _, from := range kinds {
		for _, to := range kinds {
			for a := range up {
				for b := range up {
					g, there := pair(from, to, a, b)
					if !there {
						continue
					}
					gives, takes := a, b
					if from.kind == api.KLeave {
						gives = up[a]
					}
					if to.kind == api.KEnter {
						takes = up[b]
					}
					e, at := api.ErrPort, 1 // the first operator without an edge is the one behind the input
					switch {
					case from.kind == api.KSink, to.kind == api.KInput:
						e, at = api.ErrPort, 0
					case gives != takes:
						e, at = api.ErrScope, 0
					case len(g.Nodes) == 3 && from.kind == api.KInput && (to.kind == api.KConcat || to.kind == api.KJoin):
						e, at = api.ErrPort, 2 // its other port
					case len(g.Nodes) == 3 && from.kind == api.KInput:
						e, at = api.OK, 0
					}
					checks(t, fmt.Sprint("from ", from.kind, " in ", a, " to ", to.kind, " in ", b), g, e, at)
					many[e]++
				}
			}
		}
	}
	if many[api.OK] < 9 || many[api.ErrScope] < 1000 || many[api.ErrPort] < 400 {
		t.Error(many)
	}
}

// Depths alike are not scopes alike.
func TestP9_1_ScopesOfOneDepth(t *testing.T) {
	g := onScopes([]int{-1, 0, 0}, []int{0, 5, 5})
	g.Nodes = []api.Node{{Kind: api.KInput}, {Kind: api.KEnter, Scope: 1}, {Kind: api.KEnter, Scope: 2}, {Kind: api.KInspect, Scope: 2}}
	g.Edges = []api.Edge{{From: 0, To: 1}, {From: 0, To: 2}, {From: 2, To: 3}}
	checks(t, "within a scope", g, api.OK, 0)
	g.Edges[2].From = 1
	checks(t, "from the scope beside", g, api.ErrScope, 2)
}

// around is an input, and a loop with two operators of some kinds, of which the one ahead gets what goes around from one of those behind it.
func around(ahead, behind nature) (api.Graph, int) {
	g := onScopes([]int{-1, 0}, []int{0, 3})
	g.Nodes = []api.Node{{Kind: api.KInput}, {Kind: api.KEnter, Scope: 1}, right(ahead.kind, 1), right(behind.kind, 1)}
	g.Edges = []api.Edge{{From: 0, To: 1}}
	for port := range ahead.ports {
		g.Edges = append(g.Edges, api.Edge{From: 1, To: 2, Port: port, Exchange: true})
	}
	back := len(g.Edges) - 1
	for port := range behind.ports {
		g.Edges = append(g.Edges, api.Edge{From: 1, To: 3, Port: port, Exchange: true})
	}
	return g, back
}

// Back to an operator ahead, or to itself, leads an edge from a KBack, and from no other kind.
func TestP9_1_EdgesThatGoBack(t *testing.T) {
	for _, ahead := range kinds {
		for _, behind := range kinds {
			if !ahead.other || !behind.other || ahead.enters || behind.enters {
				continue
			}
			g, back := around(ahead, behind)
			why := fmt.Sprint(ahead.kind, " and ", behind.kind)
			checks(t, why, g, api.OK, 0)
			for from, kind := range map[int]int{2: ahead.kind, 3: behind.kind} {
				g.Edges[back].From = from
				switch kind {
				case api.KLeave:
					checks(t, why, g, api.ErrScope, back)
				case api.KBack:
					checks(t, why, g, api.OK, 0)
				default:
					checks(t, why, g, api.ErrLoop, back)
				}
			}
		}
	}
}

func TestP9_1_EnterAndLeaveDoNotGoBack(t *testing.T) {
	g := whole()
	g.Edges[6].From = 11 // what leaves the inner loop comes into it again
	checks(t, "a leave behind", g, api.ErrLoop, 6)
	g = whole()
	g.Edges[6].From = 12
	checks(t, "a feedback behind", g, api.OK, 0)
	g.Edges[6].From = 13
	checks(t, "a leave of the scope around", g, api.ErrScope, 6)
	g = whole()
	g.Edges[4].From = 6
	checks(t, "to itself", g, api.ErrLoop, 4)
	g.Edges[4].From = 11
	checks(t, "a leave behind, to the loop around it", g, api.ErrLoop, 4)
	g = whole()
	g.Edges[12].From, g.Edges[10].From = 12, 10
	checks(t, "feedbacks to themselves", g, api.OK, 0)
	g = plain()
	g.Edges[0].From = math.MaxInt
	checks(t, "from far behind", g, api.ErrPort, 0)
}

func TestP9_1_Exchanges(t *testing.T) {
	needs := []int{api.KSum, api.KCount, api.KDistinct, api.KJoin, api.KTotal}
	for _, k := range kinds {
		for depth := 1; depth <= 4; depth++ {
			if depth == 1 && !k.first || depth > 1 && !k.other {
				continue
			}
			g := down(depth, kinds[api.KInspect-1], k)
			for at, e := range g.Edges {
				g.Edges[at].Exchange = true
				checks(t, "an exchange", g, api.OK, 0)
				g.Edges[at].Exchange = false
				if slices.Contains(needs, g.Nodes[e.To].Kind) {
					checks(t, fmt.Sprint("none to kind ", k.kind), g, api.ErrArg, at)
				} else {
					checks(t, fmt.Sprint("none to kind ", k.kind), g, api.OK, 0)
				}
				g.Edges[at].Exchange = e.Exchange
			}
		}
	}
}

func TestP9_1_PortsWithTwoEdges(t *testing.T) {
	g := whole()
	for at, e := range g.Edges {
		h := deep(g)
		h.Edges = append(h.Edges, e)
		checks(t, "twice, the last time", h, api.ErrPort, 24)
		h.Edges = slices.Insert(h.Edges, at, e)
		h.Edges = h.Edges[:25]
		checks(t, "twice, one behind the other", h, api.ErrPort, at+1)
		h.Edges[0], h.Edges[at] = h.Edges[at], h.Edges[0]
		if at > 0 {
			checks(t, "twice, the first time", h, api.ErrPort, at+1)
		}
	}
	h := down(1, kinds[api.KConcat-1], kinds[api.KJoin-1])
	checks(t, "both ports", h, api.OK, 0)
	for at := range h.Edges {
		h.Edges[at].Port = 1 - h.Edges[at].Port
		checks(t, "one port twice", h, api.ErrPort, at|1)
		h.Edges[at].Port = 1 - h.Edges[at].Port
	}
	h.Edges[0].Port, h.Edges[1].Port, h.Edges[2].Port, h.Edges[3].Port = 1, 0, 1, 0
	checks(t, "both ports, the other way around", h, api.OK, 0)
}

func TestP9_1_PortsWithoutAnEdge(t *testing.T) {
	g := whole()
	for at, e := range g.Edges {
		h := deep(g)
		h.Edges = slices.Delete(h.Edges, at, at+1)
		checks(t, "one edge less", h, api.ErrPort, e.To)
		for other, f := range g.Edges[:at] {
			less := deep(h)
			less.Edges = slices.Delete(less.Edges, other, other+1)
			checks(t, "two edges less", less, api.ErrPort, min(e.To, f.To))
		}
	}
	g.Edges = nil
	checks(t, "no edges", g, api.ErrPort, 2)
	g.Nodes = g.Nodes[:2]
	checks(t, "no ports", g, api.OK, 0)
	for _, k := range kinds {
		depth := 1
		if !k.first {
			depth = 2
		}
		g := down(depth, k)
		node := len(g.Nodes) - 1
		for port := range k.ports {
			h := deep(g)
			h.Edges = slices.DeleteFunc(h.Edges, func(e api.Edge) bool { return e.To == node && e.Port == port })
			checks(t, fmt.Sprint("kind ", k.kind), h, api.ErrPort, node)
		}
	}
}

func TestP9_1_OrderOfEdgesIsTheirs(t *testing.T) {
	g := whole()
	slices.Reverse(g.Edges)
	checks(t, "backwards", g, api.OK, 0)
	g.Edges[0].From, g.Edges[23].From = 99, 99
	checks(t, "the first of two", g, api.ErrPort, 0)
}
