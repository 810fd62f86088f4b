package paths_test

import (
	"cmp"
	"slices"
	"testing"

	"backwash/api"
	"backwash/paths"
	"backwash/valid"
)

const (
	topEpoch = 1 << 20
	topCount = 64
)

// of makes the timestamp of these coordinates, be it right or not.
func of(c ...int) api.Time {
	t := api.Time{D: len(c)}
	copy(t.C[:], c)
	return t
}

// step makes the step of these Adds and Ts, be it right or not.
func step(from int, add, t []int) api.Hop {
	h := api.Hop{From: from, Keep: len(add), Tail: len(t)}
	copy(h.Add[:], add)
	copy(h.T[:], t)
	return h
}

// l is a list of numbers.
func l(n ...int) []int { return n }

// place is a coordinate behind a way: kept from ahead of it, with a number added, or a new number.
type place struct {
	kept bool
	n    int
}

// trace is what a way makes of any timestamp of some coordinates: so many places, the others are zero.
type trace struct {
	from, many int
	places     [4]place
}

// still is the trace of no edge.
func still(d int) trace {
	x := trace{from: d, many: d}
	for i := range d {
		x.places[i].kept = true
	}
	return x
}

// along is the trace behind one edge more, out of an operator of a kind.
func (x trace) along(kind int) trace {
	switch kind {
	case api.KEnter:
		x.many++
	case api.KLeave:
		x.many--
		x.places[x.many] = place{}
	case api.KBack:
		x.places[x.many-1].n++
	}
	return x
}

// atOrBefore, by chapter 2's words.
func (x trace) atOrBefore(y trace) bool {
	if x.from != y.from || x.many != y.many {
		return false
	}
	for i := range x.many {
		a, b := x.places[i], y.places[i]
		if a.kept && !b.kept || a.n > b.n {
			return false
		}
	}
	return true
}

// hop is the step that does the same.
func (x trace) hop() api.Hop {
	var add, t []int
	for _, p := range x.places[:x.many] {
		if p.kept {
			add = append(add, p.n)
		} else {
			t = append(t, p.n)
		}
	}
	return step(x.from, add, t)
}

// at a timestamp, where both are right and fit.
func (x trace) at(t api.Time) (api.Time, bool) {
	if !rightTime(t) || t.D != x.from {
		return api.Time{}, false
	}
	done := api.Time{D: x.many}
	for i, p := range x.places[:x.many] {
		done.C[i] = p.n
		if p.kept {
			done.C[i] += t.C[i]
		}
	}
	return done, rightTime(done)
}

// rightTime, by chapter 1's words.
func rightTime(t api.Time) bool {
	if t.D < 1 || t.D > 4 {
		return false
	}
	for i, n := range t.C {
		if n < 0 || i >= t.D && n > 0 || i == 0 && n > topEpoch || i > 0 && n > topCount {
			return false
		}
	}
	return true
}

// timeLe, by chapter 1's words.
func timeLe(a, b api.Time) bool {
	ok := a.D == b.D && rightTime(a) && rightTime(b)
	for i := range 4 {
		ok = ok && a.C[i] <= b.C[i]
	}
	return ok
}

// takesAt is the depth at which an operator takes, by chapter 9's words.
func takesAt(g api.Graph, n int) int {
	d := depthOf(g, g.Nodes[n].Scope)
	if g.Nodes[n].Kind == api.KEnter {
		d--
	}
	return d
}

// depthOf a scope.
func depthOf(g api.Graph, scope int) int {
	if scope == 0 {
		return 1
	}
	return 1 + depthOf(g, g.Parent[scope])
}

// spot is an operator behind a way, with what the way makes.
type spot struct {
	node int
	made trace
}

// allWays are the traces of the ways from one operator to each other one, each once: all but those along which a counter gets further than there are KBacks. (Who goes through one KBack twice without having left its scope might as well have gone once, and would be at or before that.)
func allWays(g api.Graph, n int) [][]trace {
	backs := 0
	for _, x := range g.Nodes {
		if x.Kind == api.KBack {
			backs++
		}
	}
	ways := make([][]trace, len(g.Nodes))
	seen := map[spot]int{}
	next := []spot{{n, still(takesAt(g, n))}}
	for len(next) > 0 {
		s := next[len(next)-1]
		next = next[:len(next)-1]
		far := slices.ContainsFunc(s.made.places[:], func(p place) bool { return p.n > backs })
		if seen[s]++; seen[s] > 1 || far {
			continue
		}
		ways[s.node] = append(ways[s.node], s.made)
		for _, e := range g.Edges {
			if e.From == s.node {
				next = append(next, spot{e.To, s.made.along(g.Nodes[s.node].Kind)})
			}
		}
	}
	return ways
}

// lowest of some traces, each of them once: those which no other one is at or before.
func lowest(ways []trace) []trace {
	var low []trace
	for i, x := range ways {
		if !slices.ContainsFunc(ways[:i], x.under) && !slices.ContainsFunc(ways[i+1:], x.under) {
			low = append(low, x)
		}
	}
	return low
}

// under tells whether another one is at or before this one.
func (x trace) under(y trace) bool { return y.atOrBefore(x) }

// slowTable is the table by the chapter's words.
func slowTable(g api.Graph) [][][]trace {
	var table [][][]trace
	for n := range g.Nodes {
		row := allWays(g, n)
		for m := range row {
			row[m] = lowest(row[m])
		}
		table = append(table, row)
	}
	return table
}

// compare two steps by all that they have.
func compare(a, b api.Hop) int {
	return cmp.Or(cmp.Compare(a.From, b.From), cmp.Compare(a.Keep, b.Keep), cmp.Compare(a.Tail, b.Tail), slices.Compare(a.Add[:], b.Add[:]), slices.Compare(a.T[:], b.T[:]))
}

// sorted steps, in new memory.
func sorted(l []api.Hop) []api.Hop {
	l = slices.Clone(l)
	slices.SortFunc(l, compare)
	return l
}

// hops of traces.
func hops(l []trace) []api.Hop {
	var h []api.Hop
	for _, x := range l {
		h = append(h, x.hop())
	}
	return h
}

// asSteps asks that a list of the table has just these steps, in any order.
func asSteps(t *testing.T, g api.Graph, p [][][]api.Hop, n, m int, want ...api.Hop) {
	t.Helper()
	if !slices.Equal(sorted(p[n][m]), sorted(want)) {
		t.Fatalf("from %d to %d: %v, not %v, of %+v", n, m, p[n][m], want, g)
	}
}

// tableOf is the table of a graph that may run, with a row of each operator and in it a list of each.
func tableOf(t *testing.T, g api.Graph) [][][]api.Hop {
	t.Helper()
	if e, at := valid.Check(g); e != api.OK {
		t.Fatalf("it may not run: %d at %d of %+v", e, at, g)
	}
	p := paths.Table(g)
	if len(p) != len(g.Nodes) {
		t.Fatalf("%d rows of %+v", len(p), g)
	}
	for _, row := range p {
		if len(row) != len(g.Nodes) {
			t.Fatalf("%d lists of %+v", len(row), g)
		}
	}
	return p
}

// asSlow holds the table of a graph against the slow one, which it answers.
func asSlow(t *testing.T, g api.Graph) ([][][]api.Hop, [][][]trace) {
	t.Helper()
	p, slow := tableOf(t, g), slowTable(g)
	for n, row := range slow {
		for m, ways := range row {
			asSteps(t, g, p, n, m, hops(ways)...)
		}
	}
	return p, slow
}

// sameTable tells whether two tables are the same, the order of their lists too.
func sameTable(a, b [][][]api.Hop) bool {
	return slices.EqualFunc(a, b, func(x, y [][]api.Hop) bool { return slices.EqualFunc(x, y, slices.Equal) })
}

// copyTable is a table in new memory.
func copyTable(p [][][]api.Hop) [][][]api.Hop {
	p = slices.Clone(p)
	for n := range p {
		p[n] = slices.Clone(p[n])
		for m := range p[n] {
			p[n][m] = slices.Clone(p[n][m])
		}
	}
	return p
}

// plain is an input with a sink behind it.
func plain() api.Graph {
	return api.Graph{Parent: []int{-1}, Bound: []int{0}, Nodes: []api.Node{{Kind: api.KInput}, {Kind: api.KSink}}, Edges: []api.Edge{{From: 0, To: 1}}}
}

// loop is an input, a loop of a concat and a KBack, and a sink.
func loop() api.Graph {
	return api.Graph{
		Parent: []int{-1, 0}, Bound: []int{0, 3},
		Nodes: []api.Node{0: {Kind: api.KInput}, 1: {Kind: api.KEnter, Scope: 1}, 2: {Kind: api.KConcat, Scope: 1}, 3: {Kind: api.KBack, Scope: 1}, 4: {Kind: api.KLeave, Scope: 1}, 5: {Kind: api.KSink}},
		Edges: []api.Edge{{From: 0, To: 1}, {From: 1, To: 2}, {From: 3, To: 2, Port: 1}, {From: 2, To: 3}, {From: 2, To: 4}, {From: 4, To: 5}},
	}
}

// nested is a loop within a loop within a loop, each with an enter, a concat, what is within, a back and a leave.
func nested() api.Graph {
	return api.Graph{
		Parent: []int{-1, 0, 1, 2}, Bound: []int{0, 3, 64, 1},
		Nodes: []api.Node{
			0:  {Kind: api.KInput},
			1:  {Kind: api.KEnter, Scope: 1},
			2:  {Kind: api.KConcat, Scope: 1},
			3:  {Kind: api.KEnter, Scope: 2},
			4:  {Kind: api.KConcat, Scope: 2},
			5:  {Kind: api.KEnter, Scope: 3},
			6:  {Kind: api.KConcat, Scope: 3},
			7:  {Kind: api.KBack, Scope: 3},
			8:  {Kind: api.KLeave, Scope: 3},
			9:  {Kind: api.KBack, Scope: 2},
			10: {Kind: api.KLeave, Scope: 2},
			11: {Kind: api.KBack, Scope: 1},
			12: {Kind: api.KLeave, Scope: 1},
			13: {Kind: api.KSink},
		},
		Edges: []api.Edge{
			{From: 0, To: 1}, {From: 1, To: 2}, {From: 11, To: 2, Port: 1}, {From: 2, To: 3}, {From: 3, To: 4}, {From: 9, To: 4, Port: 1}, {From: 4, To: 5},
			{From: 5, To: 6}, {From: 7, To: 6, Port: 1}, {From: 6, To: 7}, {From: 6, To: 8}, {From: 8, To: 9}, {From: 8, To: 10}, {From: 10, To: 11}, {From: 10, To: 12}, {From: 12, To: 13},
		},
	}
}

// every is a graph with an operator of each kind, a loop, another one within it, and a scope behind it.
func every() api.Graph {
	return api.Graph{
		Parent: []int{-1, 0, 1, 0}, Bound: []int{0, 3, 4, 64},
		Nodes: []api.Node{
			0:  {Kind: api.KInput},
			1:  {Kind: api.KInput},
			2:  {Kind: api.KProg, Prog: []api.Ins{{Op: api.OpKey}, {Op: api.OpVal}, {Op: api.OpEmit}}},
			3:  {Kind: api.KShift, Arg: -5},
			4:  {Kind: api.KKeep, Arg: 2},
			5:  {Kind: api.KEnter, Scope: 1},
			6:  {Kind: api.KConcat, Scope: 1},
			7:  {Kind: api.KEnter, Scope: 2},
			8:  {Kind: api.KConcat, Scope: 2},
			9:  {Kind: api.KDistinct, Scope: 2},
			10: {Kind: api.KBack, Scope: 2},
			11: {Kind: api.KLeave, Scope: 2},
			12: {Kind: api.KBack, Scope: 1},
			13: {Kind: api.KLeave, Scope: 1},
			14: {Kind: api.KSum},
			15: {Kind: api.KEnter, Scope: 3},
			16: {Kind: api.KInspect, Scope: 3},
			17: {Kind: api.KLeave, Scope: 3},
			18: {Kind: api.KJoin},
			19: {Kind: api.KCount},
			20: {Kind: api.KTotal},
			21: {Kind: api.KSink},
			22: {Kind: api.KSink},
		},
		Edges: []api.Edge{
			{From: 0, To: 2}, {From: 2, To: 3}, {From: 3, To: 4}, {From: 4, To: 5}, {From: 5, To: 6}, {From: 12, To: 6, Port: 1}, {From: 6, To: 7}, {From: 7, To: 8},
			{From: 10, To: 8, Port: 1}, {From: 8, To: 9, Exchange: true}, {From: 9, To: 10, Exchange: true}, {From: 9, To: 11}, {From: 11, To: 12}, {From: 11, To: 13},
			{From: 13, To: 14, Exchange: true}, {From: 14, To: 15}, {From: 15, To: 16}, {From: 16, To: 17}, {From: 17, To: 18, Port: 1, Exchange: true}, {From: 1, To: 18, Exchange: true},
			{From: 18, To: 19, Exchange: true}, {From: 19, To: 20, Exchange: true}, {From: 20, To: 21}, {From: 2, To: 22},
		},
	}
}

// forks are two loops, one in the other, in which from the inspect (4) to the inner concat (7) two ways lead: once more around the inner loop, or out of it, once more around the outer one, and in again.
func forks() api.Graph {
	return api.Graph{
		Parent: []int{-1, 0, 1}, Bound: []int{0, 3, 3},
		Nodes: []api.Node{
			0: {Kind: api.KInput},
			1: {Kind: api.KEnter, Scope: 1},
			2: {Kind: api.KConcat, Scope: 1},
			3: {Kind: api.KEnter, Scope: 2},
			4: {Kind: api.KInspect, Scope: 2},
			5: {Kind: api.KBack, Scope: 2},
			6: {Kind: api.KEnter, Scope: 2},
			7: {Kind: api.KConcat, Scope: 2},
			8: {Kind: api.KLeave, Scope: 2},
			9: {Kind: api.KBack, Scope: 1},
		},
		Edges: []api.Edge{{From: 0, To: 1}, {From: 1, To: 2}, {From: 9, To: 2, Port: 1}, {From: 1, To: 3}, {From: 3, To: 4}, {From: 4, To: 5}, {From: 2, To: 6}, {From: 5, To: 7}, {From: 6, To: 7, Port: 1}, {From: 4, To: 8}, {From: 8, To: 9}},
	}
}

// diamond are two ways of unlike lengths, which have one step.
func diamond() api.Graph {
	return api.Graph{
		Parent: []int{-1}, Bound: []int{0},
		Nodes: []api.Node{{Kind: api.KInput}, {Kind: api.KShift}, {Kind: api.KInspect}, {Kind: api.KKeep, Arg: 1}, {Kind: api.KConcat}, {Kind: api.KSink}},
		Edges: []api.Edge{{From: 0, To: 1}, {From: 1, To: 2}, {From: 2, To: 4}, {From: 0, To: 3}, {From: 3, To: 4, Port: 1}, {From: 4, To: 5}},
	}
}

// byHand are the graphs above.
func byHand() []api.Graph {
	return []api.Graph{plain(), loop(), nested(), every(), forks(), diamond()}
}

// chance is a row of numbers that looks like chance, the same each time.
type chance uint64

func (c *chance) below(n int) int {
	*c = *c*6364136223846793005 + 1442695040888963407
	return int(uint64(*c)>>33) % n
}

// kinds are those of which graphs by chance are made, those that lead in, out and around more often.
var kinds = []int{
	api.KInput, api.KProg, api.KShift, api.KKeep, api.KConcat, api.KSum, api.KCount, api.KDistinct, api.KJoin, api.KEnter, api.KLeave, api.KBack, api.KInspect, api.KTotal, api.KSink,
	api.KConcat, api.KConcat, api.KConcat, api.KJoin, api.KBack, api.KBack, api.KBack, api.KBack,
}

// graph by chance that may run, of at most so many operators.
func (c *chance) graph(most int) api.Graph {
	g := api.Graph{Parent: []int{-1}, Bound: []int{0}, Nodes: []api.Node{{Kind: api.KInput}}}
	c.fill(&g, 0, most)
	return c.wired(g)
}

// rings by chance: loops one in the other, as deep as may be, in each of which several operators lead in, around and out.
func (c *chance) rings() api.Graph {
	g := api.Graph{Parent: []int{-1}, Bound: []int{0}, Nodes: []api.Node{{Kind: api.KInput}}}
	some := func(scope int, of ...int) {
		for range 1 + c.below(4) {
			grow(&g, of[c.below(len(of))], scope, 32)
		}
	}
	for scope := 1; scope < 4; scope++ {
		g.Parent, g.Bound = append(g.Parent, scope-1), append(g.Bound, 1+c.below(64))
		grow(&g, api.KEnter, scope, 32)
		some(scope, api.KConcat, api.KConcat, api.KEnter, api.KBack)
	}
	for scope := 3; scope > 0; scope-- {
		some(scope, api.KConcat, api.KBack, api.KBack, api.KInspect)
		grow(&g, api.KLeave, scope, 32)
	}
	return c.wired(g)
}

// wired is a graph with an edge to each port.
func (c *chance) wired(g api.Graph) api.Graph {
	for i, n := range g.Nodes {
		for port := range valid.Ports(n.Kind) {
			g.Edges = append(g.Edges, api.Edge{From: c.source(g, i, port), To: i, Port: port, Exchange: true})
		}
	}
	for i := range g.Edges {
		j := i + c.below(len(g.Edges)-i)
		g.Edges[i], g.Edges[j] = g.Edges[j], g.Edges[i]
	}
	return g
}

// fill a scope with operators, and with scopes within it, which have some way in and out.
func (c *chance) fill(g *api.Graph, scope, most int) {
	for range 3 + c.below(5) + 8/(scope+1) {
		if c.below(3) > 0 || len(g.Parent) == 8 || depthOf(*g, scope) == 4 {
			grow(g, kinds[c.below(len(kinds))], scope, most)
			continue
		}
		inner := len(g.Parent)
		g.Parent, g.Bound = append(g.Parent, scope), append(g.Bound, 1+c.below(64))
		grow(g, api.KEnter, inner, most)
		if c.below(4) > 0 {
			grow(g, api.KConcat, inner, most)
		}
		c.fill(g, inner, most)
		grow(g, api.KLeave, inner, most)
		if c.below(2) > 0 {
			grow(g, api.KBack, scope, most)
		}
	}
}

// grow puts an operator behind the others, if it may stand there and there is one that it may take from.
func grow(g *api.Graph, kind, scope, most int) {
	was := g.Nodes
	n := api.Node{Kind: kind, Scope: scope}
	if kind == api.KKeep {
		n.Arg = 1
	}
	g.Nodes = append(slices.Clone(was), n)
	// Without edges what may be is all but the ports.
	e, _ := valid.Check(*g)
	if len(was) == most || e != api.OK && e != api.ErrPort || valid.Ports(kind) > 0 && len(sources(*g, len(was))) == 0 {
		g.Nodes = was
	}
}

// source of a port: often the last one ahead, and of the second port some KBack, so that many operators lead on and around.
func (c *chance) source(g api.Graph, i, port int) int {
	from := sources(g, i)
	ahead := slices.DeleteFunc(slices.Clone(from), func(j int) bool { return j >= i })
	backs := slices.DeleteFunc(slices.Clone(from), func(j int) bool { return j < i })
	luck := c.below(4)
	switch {
	case port == 1 && luck > 0 && len(backs) > 0:
		from = backs
	case luck > 1 && len(ahead) > 0:
		return ahead[len(ahead)-1]
	}
	return from[c.below(len(from))]
}

// sources are the operators that may give to one.
func sources(g api.Graph, i int) []int {
	in := func(n api.Node, across int) int {
		if n.Kind == across {
			return g.Parent[n.Scope]
		}
		return n.Scope
	}
	var l []int
	for j, n := range g.Nodes {
		if n.Kind != api.KSink && in(n, api.KLeave) == in(g.Nodes[i], api.KEnter) && (j < i || n.Kind == api.KBack) {
			l = append(l, j)
		}
	}
	return l
}

// many calls f with the graphs by hand, and with many by chance, small ones, some of as many operators as there may be, and loops one in the other.
func many(f func(g api.Graph)) {
	for _, g := range byHand() {
		f(g)
	}
	c := chance(10)
	for i := range 600 {
		f(c.graph(2 + i%16))
	}
	for range 50 {
		f(c.graph(32))
	}
	for range 150 {
		f(c.rings())
	}
}
