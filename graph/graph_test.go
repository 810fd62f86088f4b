package graph_test

import (
	"bytes"
	"fmt"
	"math"
	"reflect"
	"slices"
	"testing"

	"backwash/api"
	"backwash/graph"
)

const (
	least    = math.MinInt64
	greatest = math.MaxInt64
	top      = 1<<31 - 1
)

// What a number of a graph's bytes is, and with it what it may be.
const (
	aScopes = iota // from 1 to 8
	aNodes         // up to 32
	aCode          // up to 64
	aEdges         // up to 64
	aSmall         // up to 2^31 - 1
	aSigned        // any, with a sign
	aBit           // 0 or 1
)

// spot is where a number stands in a graph's bytes.
type spot struct {
	at, end int
	what    int
}

// slowBytes are the bytes that chapter 6 gives a number, worked out of it by division alone.
func slowBytes(n uint64) []byte {
	if n < 128 {
		return []byte{byte(n)}
	}
	return append([]byte{byte(n%128) + 128}, slowBytes(n/128)...)
}

// slowSign is a number with a sign as one without.
func slowSign(n int64) uint64 {
	if n < 0 {
		return ^(2 * uint64(n)) // 2^64 - 1 less what 2n is without a sign, 2^64 + 2n
	}
	return uint64(n) + uint64(n)
}

// slowPut are a graph's bytes by the chapter's words, and where each of its numbers stands.
func slowPut(g api.Graph) ([]byte, []spot) {
	l := []byte{0x42, 0x57, 0x31}
	var spots []spot
	say := func(what int, n uint64) {
		more := slowBytes(n)
		spots = append(spots, spot{len(l), len(l) + len(more), what})
		l = append(l, more...)
	}
	small := func(n int) { say(aSmall, uint64(n)) }
	say(aScopes, uint64(len(g.Parent)))
	for i := range g.Parent {
		if i > 0 {
			small(g.Parent[i])
			small(g.Bound[i])
		}
	}
	say(aNodes, uint64(len(g.Nodes)))
	for _, n := range g.Nodes {
		small(n.Kind)
		small(n.Scope)
		say(aSigned, slowSign(n.Arg))
		say(aCode, uint64(len(n.Prog)))
		for _, i := range n.Prog {
			small(i.Op)
			say(aSigned, slowSign(i.N))
		}
	}
	say(aEdges, uint64(len(g.Edges)))
	for _, e := range g.Edges {
		small(e.From)
		small(e.To)
		small(e.Port)
		say(aBit, map[bool]uint64{true: 1}[e.Exchange])
	}
	return l, spots
}

// slowNumber reads a number's bytes as chapter 6 tells it.
func slowNumber(l []byte) (uint64, int, api.Errno) {
	for i, x := range l {
		switch {
		case i == 9 && x > 1:
			return 0, 0, api.ErrForm
		case x >= 128:
			continue
		case i > 0 && x == 0:
			return 0, 0, api.ErrForm
		}
		var n uint64
		for _, y := range slices.Backward(l[:i+1]) {
			n = n*128 + uint64(y%128)
		}
		return n, i + 1, api.OK
	}
	return 0, 0, api.ErrShort
}

// slowFault is what a number must not be at a place, by the promise's words.
func slowFault(what int, n uint64) api.Errno {
	counts := map[int]uint64{aScopes: 8, aNodes: 32, aCode: 64, aEdges: 64}
	most, count := counts[what]
	switch {
	case count && n > most, what == aScopes && n == 0:
		return api.ErrLong
	case what == aSmall && n > top:
		return api.ErrOver
	case what == aBit && n > 1:
		return api.ErrForm
	}
	return api.OK
}

// slowNext is what stands behind a count, ahead of what was to come anyway.
func slowNext(what int, n uint64, then []int) []int {
	var each []int
	switch what {
	case aScopes:
		n, each = n-1, []int{aSmall, aSmall}
	case aNodes:
		each = []int{aSmall, aSmall, aSigned, aCode}
	case aCode:
		each = []int{aSmall, aSigned}
	case aEdges:
		each = []int{aSmall, aSmall, aSmall, aBit}
	}
	return slices.Concat(slices.Repeat(each, int(n)), then)
}

// slowError is the error of bytes: it goes along them with a list of what is still to come.
func slowError(l []byte) api.Errno {
	if len(l) > 1<<13 {
		return api.ErrLong
	}
	for i, x := range []byte{0x42, 0x57, 0x31} {
		if i == len(l) {
			return api.ErrShort
		}
		if l[i] != x {
			return api.ErrForm
		}
	}
	l = l[3:]
	todo := []int{aScopes, aNodes, aEdges}
	for len(todo) > 0 {
		n, size, e := slowNumber(l)
		if e != api.OK {
			return e
		}
		if e := slowFault(todo[0], n); e != api.OK {
			return e
		}
		l = l[size:]
		if todo[0] <= aEdges {
			todo = slowNext(todo[0], n, todo[1:])
		} else {
			todo = todo[1:]
		}
	}
	if len(l) > 0 {
		return api.ErrForm
	}
	return api.OK
}

// deep is a copy of a graph that shares nothing with it, with nil in the place of empty lists.
func deep(g api.Graph) api.Graph {
	g.Parent = append([]int(nil), g.Parent...)
	g.Bound = append([]int(nil), g.Bound...)
	g.Nodes = append([]api.Node(nil), g.Nodes...)
	for i := range g.Nodes {
		g.Nodes[i].Prog = append([]api.Ins(nil), g.Nodes[i].Prog...)
	}
	g.Edges = append([]api.Edge(nil), g.Edges...)
	return g
}

// alike tells whether two graphs are the same, asked of the library's walk over all that they have.
func alike(a, b api.Graph) bool { return reflect.DeepEqual(deep(a), deep(b)) }

// puts asks that a graph is put as these bytes.
func puts(t *testing.T, g api.Graph, want []byte) {
	t.Helper()
	if got, e := graph.Put(g); e != api.OK || !bytes.Equal(got, want) {
		t.Fatalf("Put(%v) = %x, %d, not %x, 0", g, got, e, want)
	}
}

// reads asks that bytes are read as this graph.
func reads(t *testing.T, l []byte, want api.Graph) {
	t.Helper()
	if got, e := graph.Read(l); e != api.OK || !alike(got, want) {
		t.Fatalf("Read(%x) = %v, %d, not %v, 0", l, got, e, want)
	}
}

// noPut asks that a graph can't be put.
func noPut(t *testing.T, why string, g api.Graph) {
	t.Helper()
	if got, e := graph.Put(g); e != api.ErrArg || len(got) != 0 {
		t.Fatalf("%s: Put(%v) = %x, %d, not nothing, %d", why, g, got, e, api.ErrArg)
	}
}

// noRead asks that bytes give an error, and no graph beside it.
func noRead(t *testing.T, why string, l []byte, want api.Errno) {
	t.Helper()
	g, e := graph.Read(l)
	if e != want {
		t.Fatalf("%s: Read(%x) tells %d, not %d", why, l, e, want)
	}
	if !alike(g, api.Graph{}) {
		t.Fatalf("%s: Read(%x) gives %v beside the error %d", why, l, g, e)
	}
}

// asSlow holds Read of any bytes against the slow answers; what is read is put as it was.
func asSlow(t *testing.T, l []byte) {
	t.Helper()
	if want := slowError(l); want != api.OK {
		noRead(t, "slow", l, want)
		return
	}
	g, e := graph.Read(l)
	if e != api.OK {
		t.Fatalf("Read(%x) tells %d, not 0", l, e)
	}
	if back, _ := slowPut(g); !bytes.Equal(back, l) {
		t.Fatalf("Read(%x) = %v, whose bytes are %x", l, g, back)
	}
	puts(t, g, l)
}

// one is a graph with one scope, and nothing else.
func one() api.Graph { return api.Graph{Parent: []int{-1}, Bound: []int{0}} }

// some is a graph that has each thing twice, of each number one byte.
func some() api.Graph {
	return api.Graph{
		Parent: []int{-1, 0, 1}, Bound: []int{0, 3, 4},
		Nodes: []api.Node{
			{Kind: 1, Scope: 5, Arg: -6, Prog: []api.Ins{{Op: 7, N: 8}, {Op: 9, N: -10}}},
			{Kind: 11, Scope: 12, Arg: 13, Prog: []api.Ins{{Op: 14, N: -15}, {Op: 16, N: 17}}},
		},
		Edges: []api.Edge{{From: 18, To: 19, Port: 20, Exchange: true}, {From: 21, To: 22, Port: 23}},
	}
}

// full is a graph with so many scopes, operators, instructions of each, and edges, each number of it from a row without an end.
func full(scopes, nodes, code, edges int, small func() int, signed func() int64) api.Graph {
	g := one()
	for len(g.Parent) < scopes {
		g.Parent, g.Bound = append(g.Parent, small()), append(g.Bound, small())
	}
	for range nodes {
		n := api.Node{Kind: small(), Scope: small(), Arg: signed()}
		for range code {
			n.Prog = append(n.Prog, api.Ins{Op: small(), N: signed()})
		}
		g.Nodes = append(g.Nodes, n)
	}
	for range edges {
		g.Edges = append(g.Edges, api.Edge{From: small(), To: small(), Port: small(), Exchange: small()%2 == 1})
	}
	return g
}

// row goes around a list for ever.
func row[N any](l ...N) func() N {
	i := -1
	return func() N {
		i++
		return l[i%len(l)]
	}
}

// smalls and signeds are numbers of all lengths, with both ends.
func smalls() func() int {
	return row(0, 1, 2, 127, 128, 300, 1<<14-1, 1<<14, 1<<21-1, 1<<21, 1<<28-1, 1<<28, top-1, top)
}

func signeds() func() int64 {
	return row[int64](0, -1, 1, 63, -64, 64, -65, 1<<31, -1<<31, 1<<62-1, -1<<62, 1<<62, -1<<62-1, greatest, greatest-1, least, least+1)
}

// chance is a row of numbers that looks like chance, the same each time.
type chance uint64

func (c *chance) below(n int) int {
	*c = *c*6364136223846793005 + 1442695040888963407
	return int(uint64(*c)>>33) % n
}

// mixed is some graph that can be put, with lists of up to so many things.
func (c *chance) mixed(most int) api.Graph {
	small := func() int { return (c.below(1<<31-1) + c.below(2)) >> (c.below(32)) }
	signed := func() int64 {
		return (int64(c.below(1<<31-1))<<33 + int64(c.below(1<<31-1))<<3) >> c.below(64) * int64(1-2*c.below(2))
	}
	g := full(1+c.below(min(most, 8)), c.below(min(most, 32)+1), 0, c.below(min(most, 64)+1), small, signed)
	for i := range g.Nodes {
		g.Nodes[i].Prog = full(1, 1, c.below(min(most, 64)+1), 0, small, signed).Nodes[0].Prog
	}
	return g
}

// graphs are graphs that can be put: of each list the shortest, one between, and the longest.
func graphs() []api.Graph {
	var l []api.Graph
	for _, scopes := range []int{1, 2, 8} {
		for _, nodes := range []int{0, 1, 32} {
			for _, code := range []int{0, 1, 64} {
				for _, edges := range []int{0, 1, 64} {
					l = append(l, full(scopes, nodes, code, edges, smalls(), signeds()))
				}
			}
		}
	}
	l = append(l, one(), some())
	c := chance(8)
	for i := range 2000 {
		l = append(l, c.mixed(1+i%9))
	}
	return l
}

// numbers are the places of all numbers of a graph that are ints, by name, but the first parent and the first bound.
func numbers(g *api.Graph) map[string]*int {
	m := map[string]*int{}
	for i := 1; i < len(g.Parent); i++ {
		m[fmt.Sprint("parent ", i)], m[fmt.Sprint("bound ", i)] = &g.Parent[i], &g.Bound[i]
	}
	for i := range g.Nodes {
		n := &g.Nodes[i]
		m[fmt.Sprint("kind ", i)], m[fmt.Sprint("scope ", i)] = &n.Kind, &n.Scope
		for j := range n.Prog {
			m[fmt.Sprint("op ", i, j)] = &n.Prog[j].Op
		}
	}
	for i := range g.Edges {
		e := &g.Edges[i]
		m[fmt.Sprint("from ", i)], m[fmt.Sprint("to ", i)], m[fmt.Sprint("port ", i)] = &e.From, &e.To, &e.Port
	}
	return m
}

// signed are the places of all numbers of a graph that have a sign.
func signed(g *api.Graph) map[string]*int64 {
	m := map[string]*int64{}
	for i := range g.Nodes {
		n := &g.Nodes[i]
		m[fmt.Sprint("arg ", i)] = &n.Arg
		for j := range n.Prog {
			m[fmt.Sprint("n ", i, j)] = &n.Prog[j].N
		}
	}
	return m
}
