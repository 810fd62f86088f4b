package valid_test

import (
	"math"
	"reflect"
	"slices"
	"testing"

	"backwash/api"
	"backwash/valid"
)

// nature is what the chapter says of a kind: its ports; whether it may be in the first scope, and in another one; whether it takes, and gives, in its scope's parent; whether its edge has to be an exchange; which Arg it may have; whether it has a program.
type nature struct {
	kind, ports      int
	first, other     bool
	enters, leaves   bool
	gathers          bool
	argFrom, argUpTo int64
	program          bool
}

const (
	least    = math.MinInt64
	greatest = math.MaxInt64
)

// kinds are all fifteen.
var kinds = []nature{
	{kind: api.KInput, first: true},
	{kind: api.KProg, ports: 1, first: true, other: true, program: true},
	{kind: api.KShift, ports: 1, first: true, other: true, argFrom: least, argUpTo: greatest},
	{kind: api.KKeep, ports: 1, first: true, other: true, argFrom: 1, argUpTo: greatest},
	{kind: api.KConcat, ports: 2, first: true, other: true},
	{kind: api.KSum, ports: 1, first: true, other: true, gathers: true},
	{kind: api.KCount, ports: 1, first: true, other: true, gathers: true},
	{kind: api.KDistinct, ports: 1, first: true, other: true, gathers: true},
	{kind: api.KJoin, ports: 2, first: true, other: true, gathers: true},
	{kind: api.KEnter, ports: 1, other: true, enters: true},
	{kind: api.KLeave, ports: 1, other: true, leaves: true},
	{kind: api.KBack, ports: 1, other: true},
	{kind: api.KInspect, ports: 1, first: true, other: true},
	{kind: api.KTotal, ports: 1, first: true, other: true, gathers: true},
	{kind: api.KSink, ports: 1, first: true},
}

// rule is a thing that is asked of each scope, operator or edge of a part, and the error if it is bad.
type rule struct {
	e   api.Errno
	bad func(i int) bool
}

// part of what the chapter asks, of so many things.
type part struct {
	many  int
	rules []rule
}

// slowCheck is what Check answers by the chapter's words: part by part, thing by thing, rule by rule.
func slowCheck(g api.Graph) (api.Errno, int) {
	for _, p := range slices.Concat(slowScopes(g), slowNodes(g), slowEdges(g), slowPorts(g)) {
		for i := range p.many {
			for _, r := range p.rules {
				if r.bad(i) {
					return r.e, i
				}
			}
		}
	}
	return api.OK, 0
}

// outside tells whether a number is none of 0 to n - 1.
func outside(i, n int) bool { return i < 0 || i >= n }

// slowUp are a scope and its parents, up to the first.
func slowUp(g api.Graph, scope int) []int {
	if scope == 0 {
		return []int{0}
	}
	return append([]int{scope}, slowUp(g, g.Parent[scope])...)
}

// slowTakes and slowGives are the scopes in which an operator takes and gives.
func slowTakes(g api.Graph, n api.Node) int {
	if kinds[n.Kind-1].enters {
		return g.Parent[n.Scope]
	}
	return n.Scope
}

func slowGives(g api.Graph, n api.Node) int {
	if kinds[n.Kind-1].leaves {
		return g.Parent[n.Scope]
	}
	return n.Scope
}

// slowScopes is the chapter's first point.
func slowScopes(g api.Graph) []part {
	many := func(int) bool {
		return outside(len(g.Parent), 9) || len(g.Parent) == 0 || len(g.Bound) != len(g.Parent)
	}
	parent := func(i int) bool { return i == 0 && g.Parent[0] != -1 || i > 0 && outside(g.Parent[i], i) }
	bound := func(i int) bool { return i == 0 && g.Bound[0] != 0 || i > 0 && outside(g.Bound[i]-1, 64) }
	depth := func(i int) bool { return len(slowUp(g, i)) > 4 }
	return []part{
		{1, []rule{{api.ErrScope, many}}},
		{len(g.Parent), []rule{{api.ErrScope, parent}, {api.ErrScope, bound}, {api.ErrScope, depth}}},
	}
}

// slowNodes is its second one.
func slowNodes(g api.Graph) []part {
	many := func(int) bool { return len(g.Nodes) == 0 || len(g.Nodes) > 32 || len(g.Edges) > 64 }
	kind := func(i int) bool { return outside(g.Nodes[i].Kind-1, 15) }
	there := func(i int) bool { return outside(g.Nodes[i].Scope, len(g.Parent)) }
	suits := func(i int) bool {
		k := kinds[g.Nodes[i].Kind-1]
		return g.Nodes[i].Scope == 0 && !k.first || g.Nodes[i].Scope > 0 && !k.other
	}
	fits := func(i int) bool {
		scope := g.Nodes[i].Scope
		if i == 0 {
			return scope != 0
		}
		up := slowUp(g, g.Nodes[i-1].Scope)
		if slices.Contains(up, scope) {
			return false
		}
		was := slices.ContainsFunc(g.Nodes[:i], func(n api.Node) bool { return n.Scope == scope })
		return was || !slices.Contains(up, g.Parent[scope])
	}
	arg := func(i int) bool {
		k := kinds[g.Nodes[i].Kind-1]
		return g.Nodes[i].Arg < k.argFrom || g.Nodes[i].Arg > k.argUpTo
	}
	code := func(i int) bool {
		p := g.Nodes[i].Prog
		return len(p) > 0 && (!kinds[g.Nodes[i].Kind-1].program || !slowRight(p))
	}
	return []part{
		{1, []rule{{api.ErrLong, many}}},
		{len(g.Nodes), []rule{{api.ErrArg, kind}, {api.ErrScope, there}, {api.ErrScope, suits}, {api.ErrScope, fits}, {api.ErrArg, arg}, {api.ErrCode, code}}},
	}
}

// slowRight tells whether a program is right, as chapter 7 says.
func slowRight(p []api.Ins) bool {
	return len(p) <= 64 && !slices.ContainsFunc(p, func(x api.Ins) bool {
		switch x.Op {
		case api.OpPush:
			return false
		case api.OpJump, api.OpZero:
			return x.N < 0 || x.N > int64(len(p))
		}
		return outside(x.Op-1, 16) || x.N != 0
	})
}

// slowEdges is its third one.
func slowEdges(g api.Graph) []part {
	n := len(g.Nodes)
	from := func(i int) api.Node { return g.Nodes[g.Edges[i].From] }
	to := func(i int) api.Node { return g.Nodes[g.Edges[i].To] }
	ends := func(i int) bool { return outside(g.Edges[i].From, n) || outside(g.Edges[i].To, n) }
	sink := func(i int) bool { return from(i).Kind == api.KSink }
	port := func(i int) bool { return outside(g.Edges[i].Port, kinds[to(i).Kind-1].ports) }
	scope := func(i int) bool { return slowGives(g, from(i)) != slowTakes(g, to(i)) }
	loop := func(i int) bool { return g.Edges[i].From >= g.Edges[i].To && from(i).Kind != api.KBack }
	exchange := func(i int) bool { return kinds[to(i).Kind-1].gathers && !g.Edges[i].Exchange }
	taken := func(i int) bool {
		many := map[[2]int]int{}
		for _, e := range g.Edges[:i+1] {
			many[[2]int{e.To, e.Port}]++
		}
		return many[[2]int{g.Edges[i].To, g.Edges[i].Port}] > 1
	}
	return []part{{len(g.Edges), []rule{{api.ErrPort, ends}, {api.ErrPort, sink}, {api.ErrPort, port}, {api.ErrScope, scope}, {api.ErrLoop, loop}, {api.ErrArg, exchange}, {api.ErrPort, taken}}}}
}

// slowPorts is its fourth one.
func slowPorts(g api.Graph) []part {
	open := func(i int) bool {
		ports := map[int]int{}
		for _, e := range g.Edges {
			if e.To == i {
				ports[e.Port]++
			}
		}
		return len(ports) < kinds[g.Nodes[i].Kind-1].ports
	}
	return []part{{len(g.Nodes), []rule{{api.ErrPort, open}}}}
}

// deep is a copy of a graph that shares nothing with it, with nil in the place of empty lists.
func deep(g api.Graph) api.Graph {
	g.Parent = append([]int(nil), g.Parent...)
	g.Bound = append([]int(nil), g.Bound...)
	g.Nodes = append([]api.Node(nil), g.Nodes...)
	for i := range g.Nodes {
		g.Nodes[i].Prog = append([]api.Ins(nil), g.Nodes[i].Prog...)
	}
	g.Edges = append([]api.Edge(nil), g.Edges...)
	return g
}

// alike tells whether two graphs are the same, asked of the library's walk over all that they have.
func alike(a, b api.Graph) bool { return reflect.DeepEqual(deep(a), deep(b)) }

// checks asks that Check of a graph answers so.
func checks(t *testing.T, why string, g api.Graph, want api.Errno, at int) {
	t.Helper()
	if e, n := valid.Check(g); e != want || n != at {
		t.Fatalf("%s: Check(%+v) = %d, %d, not %d, %d", why, g, e, n, want, at)
	}
}

// asSlow holds Check of any graph against the slow answer.
func asSlow(t *testing.T, why string, g api.Graph) {
	t.Helper()
	e, at := slowCheck(g)
	checks(t, why, g, e, at)
}

// plain is an input with a sink behind it.
func plain() api.Graph {
	return api.Graph{Parent: []int{-1}, Bound: []int{0}, Nodes: []api.Node{{Kind: api.KInput}, {Kind: api.KSink}}, Edges: []api.Edge{{From: 0, To: 1}}}
}

// whole is a graph with an operator of each kind, a loop, another one within it, and one behind it.
func whole() api.Graph {
	return api.Graph{
		Parent: []int{-1, 0, 1, 0}, Bound: []int{0, 3, 4, 64},
		Nodes: []api.Node{
			0:  {Kind: api.KInput},
			1:  {Kind: api.KInput},
			2:  {Kind: api.KProg, Prog: []api.Ins{{Op: api.OpKey}, {Op: api.OpVal}, {Op: api.OpEmit}}},
			3:  {Kind: api.KShift, Arg: -5},
			4:  {Kind: api.KKeep, Arg: 2},
			5:  {Kind: api.KEnter, Scope: 1},
			6:  {Kind: api.KConcat, Scope: 1},
			7:  {Kind: api.KEnter, Scope: 2},
			8:  {Kind: api.KConcat, Scope: 2},
			9:  {Kind: api.KDistinct, Scope: 2},
			10: {Kind: api.KBack, Scope: 2},
			11: {Kind: api.KLeave, Scope: 2},
			12: {Kind: api.KBack, Scope: 1},
			13: {Kind: api.KLeave, Scope: 1},
			14: {Kind: api.KSum},
			15: {Kind: api.KEnter, Scope: 3},
			16: {Kind: api.KInspect, Scope: 3},
			17: {Kind: api.KLeave, Scope: 3},
			18: {Kind: api.KJoin},
			19: {Kind: api.KCount},
			20: {Kind: api.KTotal},
			21: {Kind: api.KSink},
			22: {Kind: api.KSink},
		},
		Edges: []api.Edge{
			0:  {From: 0, To: 2},
			1:  {From: 2, To: 3},
			2:  {From: 3, To: 4},
			3:  {From: 4, To: 5},
			4:  {From: 5, To: 6},
			5:  {From: 12, To: 6, Port: 1},
			6:  {From: 6, To: 7},
			7:  {From: 7, To: 8},
			8:  {From: 10, To: 8, Port: 1},
			9:  {From: 8, To: 9, Exchange: true},
			10: {From: 9, To: 10, Exchange: true},
			11: {From: 9, To: 11},
			12: {From: 11, To: 12},
			13: {From: 11, To: 13},
			14: {From: 13, To: 14, Exchange: true},
			15: {From: 14, To: 15},
			16: {From: 15, To: 16},
			17: {From: 16, To: 17},
			18: {From: 17, To: 18, Port: 1, Exchange: true},
			19: {From: 1, To: 18, Exchange: true},
			20: {From: 18, To: 19, Exchange: true},
			21: {From: 19, To: 20, Exchange: true},
			22: {From: 20, To: 21},
			23: {From: 2, To: 22},
		},
	}
}

// right is an operator of a kind, as it may be in a scope.
func right(kind, scope int) api.Node {
	return api.Node{Kind: kind, Scope: scope, Arg: kinds[kind-1].argUpTo}
}

// down is a graph that may run, whose scopes lie one in the other down to a depth, with an operator of each of these kinds in the innermost one.
func down(depth int, of ...nature) api.Graph {
	g := api.Graph{Parent: []int{-1}, Bound: []int{0}, Nodes: []api.Node{{Kind: api.KInput}}}
	for i := 1; i < depth; i++ {
		g.Parent, g.Bound = append(g.Parent, i-1), append(g.Bound, i)
		g.Nodes = append(g.Nodes, api.Node{Kind: api.KEnter, Scope: i})
		g.Edges = append(g.Edges, api.Edge{From: i - 1, To: i})
	}
	for _, k := range of {
		g.Nodes = append(g.Nodes, right(k.kind, depth-1))
		from := depth - 1
		if k.enters {
			from--
		}
		for port := range k.ports {
			g.Edges = append(g.Edges, api.Edge{From: from, To: len(g.Nodes) - 1, Port: port, Exchange: k.gathers})
		}
	}
	return g
}

// chance is a row of numbers that looks like chance, the same each time.
type chance uint64

func (c *chance) below(n int) int {
	*c = *c*6364136223846793005 + 1442695040888963407
	return int(uint64(*c)>>33) % n
}

// runs is some graph that may run: it is built so that each rule holds.
func (c *chance) runs() api.Graph {
	g := api.Graph{Parent: []int{-1}, Bound: []int{0}, Nodes: []api.Node{{Kind: api.KInput}}}
	for range c.below(8) {
		parent := c.below(len(g.Parent))
		if len(slowUp(g, parent)) < 4 {
			g.Parent, g.Bound = append(g.Parent, parent), append(g.Bound, 1+c.below(64))
		}
	}
	many := 1 + c.below(32)
	for range 12 * many {
		if len(g.Nodes) < many {
			c.grow(&g)
		}
	}
	for i, n := range g.Nodes {
		for port := range kinds[n.Kind-1].ports {
			from := sources(g, i)
			g.Edges = append(g.Edges, api.Edge{From: from[c.below(len(from))], To: i, Port: port, Exchange: kinds[n.Kind-1].gathers || c.below(2) == 1})
		}
	}
	for i := range g.Edges {
		j := i + c.below(len(g.Edges)-i)
		g.Edges[i], g.Edges[j] = g.Edges[j], g.Edges[i]
	}
	return g
}

// grow puts some operator behind the others, if there is one ahead that it may take from.
func (c *chance) grow(g *api.Graph) {
	k := kinds[c.below(15)]
	scope := c.below(len(g.Parent))
	if scope == 0 && !k.first || scope > 0 && !k.other {
		return
	}
	up := slowUp(*g, g.Nodes[len(g.Nodes)-1].Scope)
	if !slices.Contains(up, scope) {
		was := slices.ContainsFunc(g.Nodes, func(n api.Node) bool { return n.Scope == scope })
		if was || !slices.Contains(up, g.Parent[scope]) {
			return
		}
	}
	n := api.Node{Kind: k.kind, Scope: scope}
	switch {
	case k.kind == api.KShift:
		n.Arg = int64(c.below(9) - 4)
	case k.kind == api.KKeep:
		n.Arg = int64(c.below(3) + 1)
	case k.program:
		for range c.below(65) {
			n.Prog = append(n.Prog, api.Ins{Op: 1 + c.below(16)})
		}
	}
	was := g.Nodes
	g.Nodes = append(slices.Clone(was), n)
	if k.ports > 0 && len(sources(*g, len(was))) == 0 {
		g.Nodes = was
	}
}

// sources are the operators that may give to one.
func sources(g api.Graph, i int) []int {
	var l []int
	for j, n := range g.Nodes {
		if n.Kind != api.KSink && slowGives(g, n) == slowTakes(g, g.Nodes[i]) && (j < i || n.Kind == api.KBack) {
			l = append(l, j)
		}
	}
	return l
}

// places are the places of all numbers of a graph that are ints.
func places(g *api.Graph) []*int {
	var l []*int
	for i := range g.Parent {
		l = append(l, &g.Parent[i])
	}
	for i := range g.Bound {
		l = append(l, &g.Bound[i])
	}
	for i := range g.Nodes {
		l = append(l, &g.Nodes[i].Kind, &g.Nodes[i].Scope)
	}
	for i := range g.Edges {
		l = append(l, &g.Edges[i].From, &g.Edges[i].To, &g.Edges[i].Port)
	}
	return l
}

// spoil changes some place of a graph, whatever comes of it.
func (c *chance) spoil(g *api.Graph) {
	switch c.below(12) {
	case 0:
		i := c.below(len(g.Nodes))
		g.Nodes[i].Arg = int64(c.below(4) - 2)
	case 1:
		i := c.below(len(g.Nodes))
		g.Nodes[i].Prog = []api.Ins{{Op: c.below(18), N: int64(c.below(4) - 1)}}
	case 2:
		if len(g.Edges) > 0 {
			e := &g.Edges[c.below(len(g.Edges))]
			e.Exchange = !e.Exchange
		}
	case 3:
		if len(g.Edges) > 0 {
			i := c.below(len(g.Edges))
			g.Edges = slices.Delete(g.Edges, i, i+1)
		}
	case 4:
		g.Edges = append(g.Edges, api.Edge{From: c.below(len(g.Nodes)), To: c.below(len(g.Nodes)), Port: c.below(2), Exchange: true})
	case 5:
		i, j := c.below(len(g.Nodes)), c.below(len(g.Nodes))
		g.Nodes[i], g.Nodes[j] = g.Nodes[j], g.Nodes[i]
	default:
		all := places(g)
		*all[c.below(len(all))] = c.below(40) - 2
	}
}

// roomy is a list with spare room behind it, and the whole of that room.
func roomy[E any](l []E, fill E) ([]E, []E) {
	all := slices.Concat(l, slices.Repeat([]E{fill}, 20))
	return all[:len(l)], all
}

// roomyGraph is a graph whose lists all have spare room, and a call that tells of the graph with all of that room.
func roomyGraph(g api.Graph) (api.Graph, func() api.Graph) {
	g = deep(g)
	all := deep(g)
	g.Parent, all.Parent = roomy(g.Parent, 77)
	g.Bound, all.Bound = roomy(g.Bound, 77)
	g.Edges, all.Edges = roomy(g.Edges, api.Edge{From: 77})
	progs := make([][]api.Ins, len(g.Nodes))
	for i := range g.Nodes {
		g.Nodes[i].Prog, progs[i] = roomy(g.Nodes[i].Prog, api.Ins{Op: 77})
	}
	g.Nodes, all.Nodes = roomy(g.Nodes, api.Node{Kind: 77})
	return g, func() api.Graph {
		now := deep(all)
		for i, p := range progs {
			now.Nodes[i].Prog = slices.Clone(p)
		}
		return now
	}
}

func TestP9_1_P9_2_NothingHandedInChanges(t *testing.T) {
	l := []api.Graph{{}, plain(), whole()}
	c := chance(1)
	for i := range 600 {
		g := deep(c.runs())
		for range i % 3 {
			c.spoil(&g)
		}
		l = append(l, g)
	}
	for _, g := range l {
		h, told := roomyGraph(g)
		before := told()
		valid.Check(h)
		for i := -1; i <= len(g.Parent); i++ {
			valid.Depth(h, i)
		}
		for i := -1; i <= len(g.Nodes); i++ {
			valid.Takes(h, i)
			valid.Gives(h, i)
		}
		if !alike(told(), before) || !alike(h, g) {
			t.Fatalf("%+v", g)
		}
	}
}
