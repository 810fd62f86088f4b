package valid

import (
	"backwash/api"
	"backwash/prog"
)

// Check a graph. What a part asks for may stand on what the parts ahead of it found right: the numbers that they looked at are there.
func Check(g api.Graph) (api.Errno, int) {
	for _, part := range []func(api.Graph) (api.Errno, int){checkScopes, checkNodes, checkEdges, checkPorts} {
		if e, at := part(g); e != api.OK {
			return e, at
		}
	}
	return api.OK, 0
}

// checkScopes is what is asked of scopes.
func checkScopes(g api.Graph) (api.Errno, int) {
	n := len(g.Parent)
	if n < 1 || n > api.MaxScopes || len(g.Bound) != n {
		return api.ErrScope, 0
	}
	for i := range n {
		if !scopeMayBe(g, i) {
			return api.ErrScope, i
		}
	}
	return api.OK, 0
}

// scopeMayBe tells of a scope, behind others that may be.
func scopeMayBe(g api.Graph, i int) bool {
	parent, bound := g.Parent[i], g.Bound[i]
	if i == 0 {
		return parent == -1 && bound == 0
	}
	return 0 <= parent && parent < i && 1 <= bound && bound <= api.MaxCount && Depth(g, i) <= api.MaxDepth
}

// checkNodes is what is asked of operators.
func checkNodes(g api.Graph) (api.Errno, int) {
	if len(g.Nodes) < 1 || len(g.Nodes) > api.MaxNodes || len(g.Edges) > api.MaxEdges {
		return api.ErrLong, 0
	}
	for i := range g.Nodes {
		if e := checkNode(g, i); e != api.OK {
			return e, i
		}
	}
	return api.OK, 0
}

// checkNode is what is asked of an operator, behind others that may be.
func checkNode(g api.Graph, i int) api.Errno {
	n := g.Nodes[i]
	switch {
	case n.Kind < api.KInput || n.Kind > api.KSink:
		return api.ErrArg
	case n.Scope < 0 || n.Scope >= len(g.Parent) || !scopeSuits(n) || !scopeFits(g, i):
		return api.ErrScope
	case !argMayBe(n):
		return api.ErrArg
	case !programMayBe(n):
		return api.ErrCode
	}
	return api.OK
}

// scopeSuits tells whether an operator of its kind may be in such a scope: the first one, or another one.
func scopeSuits(n api.Node) bool {
	switch n.Kind {
	case api.KEnter, api.KLeave, api.KBack:
		return n.Scope != 0
	case api.KInput, api.KSink:
		return n.Scope == 0
	}
	return true
}

// scopeFits tells whether an operator's scope fits behind that of the one ahead of it. As it goes around all others, the first scope fits behind each; so the parent of any that is asked about further is there.
func scopeFits(g api.Graph, i int) bool {
	scope := g.Nodes[i].Scope
	if i == 0 || scope == 0 {
		return scope == 0
	}
	last := g.Nodes[i-1].Scope
	return around(g, scope, last) || around(g, g.Parent[scope], last) && !entered(g, i)
}

// around tells whether the one scope is the other one, or one of its parents. A parent is ahead of its scope, so the way up to the one goes no further than to its number.
func around(g api.Graph, outer, inner int) bool {
	for inner > outer {
		inner = g.Parent[inner]
	}
	return inner == outer
}

// entered tells whether an operator ahead of this one is in its scope.
func entered(g api.Graph, i int) bool {
	for _, n := range g.Nodes[:i] {
		if n.Scope == g.Nodes[i].Scope {
			return true
		}
	}
	return false
}

// argMayBe tells whether an operator's number may be.
func argMayBe(n api.Node) bool {
	switch n.Kind {
	case api.KKeep:
		return n.Arg >= 1
	case api.KShift:
		return true
	}
	return n.Arg == 0
}

// programMayBe tells whether an operator's program may be.
func programMayBe(n api.Node) bool {
	if n.Kind == api.KProg {
		return prog.Right(n.Prog)
	}
	return len(n.Prog) == 0
}

// checkEdges is what is asked of edges.
func checkEdges(g api.Graph) (api.Errno, int) {
	for i := range g.Edges {
		if e := checkEdge(g, i); e != api.OK {
			return e, i
		}
	}
	return api.OK, 0
}

// checkEdge is what is asked of an edge, behind others that may be.
func checkEdge(g api.Graph, i int) api.Errno {
	e := g.Edges[i]
	switch {
	case !endsAreThere(g, e):
		return api.ErrPort
	case givesIn(g, e.From) != takesIn(g, e.To):
		return api.ErrScope
	case e.To <= e.From && g.Nodes[e.From].Kind != api.KBack:
		return api.ErrLoop
	case gathers(g.Nodes[e.To].Kind) && !e.Exchange:
		return api.ErrArg
	case hasEdge(g.Edges[:i], e.To, e.Port):
		return api.ErrPort
	}
	return api.OK
}

// endsAreThere tells whether an edge leads out of an operator that gives to a port of another one.
func endsAreThere(g api.Graph, e api.Edge) bool {
	if e.From < 0 || e.From >= len(g.Nodes) || e.To < 0 || e.To >= len(g.Nodes) {
		return false
	}
	return g.Nodes[e.From].Kind != api.KSink && 0 <= e.Port && e.Port < Ports(g.Nodes[e.To].Kind)
}

// gathers tells whether an operator of a kind needs all records of a key together.
func gathers(kind int) bool {
	switch kind {
	case api.KSum, api.KCount, api.KDistinct, api.KJoin, api.KTotal:
		return true
	}
	return false
}

// hasEdge tells whether one of the edges leads to a port.
func hasEdge(edges []api.Edge, node, port int) bool {
	for _, e := range edges {
		if e.To == node && e.Port == port {
			return true
		}
	}
	return false
}

// checkPorts is what is asked of operators, once their edges are right.
func checkPorts(g api.Graph) (api.Errno, int) {
	for i, n := range g.Nodes {
		for port := range Ports(n.Kind) {
			if !hasEdge(g.Edges, i, port) {
				return api.ErrPort, i
			}
		}
	}
	return api.OK, 0
}
