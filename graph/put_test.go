package graph_test

import (
	"bytes"
	"math"
	"slices"
	"testing"

	"backwash/api"
	"backwash/graph"
)

func TestP8_1_TheExample(t *testing.T) {
	puts(t, one(), []byte{0x42, 0x57, 0x31, 1, 0, 0})
	puts(t, api.Graph{Parent: []int{-1}, Bound: []int{0}, Nodes: []api.Node{}, Edges: []api.Edge{}}, []byte{0x42, 0x57, 0x31, 1, 0, 0})
}

func TestP8_1_BytesByHand(t *testing.T) {
	puts(t, some(), []byte{'B', 'W', '1', 3, 0, 3, 1, 4,
		2, 1, 5, 11, 2, 7, 16, 9, 19, 11, 12, 26, 2, 14, 29, 16, 34,
		2, 18, 19, 20, 1, 21, 22, 23, 0})
	g := one()
	g.Nodes = []api.Node{{Kind: 300, Scope: top, Arg: least, Prog: []api.Ins{{Op: 128, N: greatest}}}, {}}
	puts(t, g, []byte{'B', 'W', '1', 1,
		2, 0xac, 2, 255, 255, 255, 255, 7, 255, 255, 255, 255, 255, 255, 255, 255, 255, 1, 1, 128, 1, 254, 255, 255, 255, 255, 255, 255, 255, 255, 1, 0, 0, 0, 0,
		0})
	g = one()
	g.Parent, g.Bound = append(g.Parent, top, 0), append(g.Bound, 0, top)
	g.Edges = []api.Edge{{From: top}, {To: top}, {Port: top}, {Exchange: true}}
	puts(t, g, []byte{'B', 'W', '1', 3, 255, 255, 255, 255, 7, 0, 0, 255, 255, 255, 255, 7, 0,
		4, 255, 255, 255, 255, 7, 0, 0, 0, 0, 255, 255, 255, 255, 7, 0, 0, 0, 0, 255, 255, 255, 255, 7, 0, 0, 0, 0, 1})
}

func TestP8_1_BytesOfAllLengths(t *testing.T) {
	for _, g := range graphs() {
		want, _ := slowPut(g)
		puts(t, g, want)
	}
}

// Nothing says that a graph with too many bytes to be read can't be put.
func TestP8_1_TheLongest(t *testing.T) {
	g := full(8, 32, 64, 64, row(top), row[int64](least))
	want, _ := slowPut(g)
	if len(want) <= api.MaxBytes {
		t.Fatal(len(want))
	}
	puts(t, g, want)
}

func TestP8_1_EndsOfEachPlace(t *testing.T) {
	g := some()
	for name, at := range numbers(&g) {
		was := *at
		for _, n := range []int{0, 1, 127, 128, top - 1, top} {
			*at = n
			want, _ := slowPut(g)
			puts(t, g, want)
		}
		for _, n := range []int{-1, -2, top + 1, top + 2, 1 << 32, math.MaxInt, math.MinInt} {
			*at = n
			noPut(t, name, g)
		}
		*at = was
	}
	for _, at := range signed(&g) {
		was := *at
		for _, n := range []int64{0, -1, 1, 63, 64, -64, -65, top, top + 1, -top - 1, -top - 2, greatest, least} {
			*at = n
			want, _ := slowPut(g)
			puts(t, g, want)
		}
		*at = was
	}
}

func TestP8_1_EndsOfTheLastOnes(t *testing.T) {
	for _, whole := range []api.Graph{full(8, 32, 64, 64, row(1), row[int64](1)), full(2, 1, 1, 1, row(0), row[int64](0))} {
		places := numbers(&whole)
		for name, at := range places {
			was := *at
			for _, n := range []int{-1, top + 1} {
				*at = n
				noPut(t, name, whole)
			}
			*at = was
		}
	}
}

func TestP8_1_TheFirstScope(t *testing.T) {
	for _, g := range []api.Graph{one(), some()} {
		for _, n := range []int{-2, 0, 1, 2, top, top + 1, math.MinInt, math.MaxInt} {
			bad := deep(g)
			bad.Parent[0] = n
			noPut(t, "first parent", bad)
		}
		for _, n := range []int{-2, -1, 1, 2, top, top + 1, math.MinInt, math.MaxInt} {
			bad := deep(g)
			bad.Bound[0] = n
			noPut(t, "first bound", bad)
		}
	}
}

func TestP8_1_HowManyScopes(t *testing.T) {
	for parents := range 12 {
		for bounds := range 12 {
			g := some()
			g.Parent = append([]int{-1}, make([]int, 20)...)[:parents]
			g.Bound = make([]int, bounds)
			if parents == bounds && parents >= 1 && parents <= 8 {
				want, _ := slowPut(g)
				puts(t, g, want)
			} else {
				noPut(t, "scopes", g)
			}
		}
	}
	noPut(t, "nothing", api.Graph{})
	noPut(t, "empty", api.Graph{Parent: []int{}, Bound: []int{}})
	noPut(t, "no scope", api.Graph{Nodes: make([]api.Node, 1), Edges: make([]api.Edge, 1)})
}

func TestP8_1_TooMany(t *testing.T) {
	for _, n := range []int{33, 34, 64, 1 << 16} {
		g := one()
		g.Nodes = make([]api.Node, n)
		noPut(t, "nodes", g)
	}
	for _, n := range []int{65, 66, 128, 1 << 16} {
		g := one()
		g.Edges = make([]api.Edge, n)
		noPut(t, "edges", g)
	}
	for _, n := range []int{65, 66, 128, 1 << 16} {
		for at := range 3 {
			g := one()
			g.Nodes = make([]api.Node, 3)
			g.Nodes[at].Prog = make([]api.Ins, n)
			noPut(t, "instructions", g)
		}
	}
	g := one()
	g.Nodes, g.Edges = make([]api.Node, 32), make([]api.Edge, 64)
	for i := range g.Nodes {
		g.Nodes[i].Prog = make([]api.Ins, 64)
	}
	want, _ := slowPut(g)
	puts(t, g, want)
}

// same asks Same both ways around.
func same(t *testing.T, why string, a, b api.Graph, want bool) {
	t.Helper()
	if graph.Same(a, b) != want || graph.Same(b, a) != want {
		t.Fatalf("%s: Same(%v, %v) isn't %v", why, a, b, want)
	}
}

func TestP8_1_SameAsItself(t *testing.T) {
	for _, g := range graphs() {
		same(t, "a copy", g, deep(g), true)
	}
	a := api.Graph{Parent: []int{}, Bound: []int{}, Nodes: []api.Node{}, Edges: []api.Edge{}}
	same(t, "nil and empty", a, api.Graph{}, true)
	b, c := some(), some()
	b.Nodes[0].Prog, c.Nodes[0].Prog = nil, []api.Ins{}
	same(t, "no program", b, c, true)
	b.Edges, c.Edges = nil, []api.Edge{}
	same(t, "no edges", b, c, true)
	same(t, "no graph", api.Graph{Parent: []int{-5}, Nodes: []api.Node{{Kind: -1}}}, api.Graph{Parent: []int{-5}, Nodes: []api.Node{{Kind: -1}}}, true)
}

func TestP8_1_NotSameInOnePlace(t *testing.T) {
	g := some()
	h := deep(g)
	ints := numbers(&h)
	ints["first parent"], ints["first bound"] = &h.Parent[0], &h.Bound[0]
	for name, at := range ints {
		for _, d := range []int{1, -1, 256, 1 << 31, 1 << 32, math.MinInt} {
			*at += d
			same(t, name, g, h, false)
			*at -= d
		}
	}
	for name, at := range signed(&h) {
		for _, d := range []int64{1, -1, 256, 1 << 31, 1 << 32, least} {
			*at += d
			same(t, name, g, h, false)
			*at -= d
		}
	}
	for i := range h.Edges {
		h.Edges[i].Exchange = !h.Edges[i].Exchange
		same(t, "exchange", g, h, false)
		h.Edges[i].Exchange = !h.Edges[i].Exchange
	}
	same(t, "all back", g, h, true)
}

func TestP8_1_NotSameInOneLength(t *testing.T) {
	g := some()
	for name, change := range map[string]func(h *api.Graph){
		"parent less":    func(h *api.Graph) { h.Parent = h.Parent[:2] },
		"parent more":    func(h *api.Graph) { h.Parent = append(h.Parent, 0) },
		"no parents":     func(h *api.Graph) { h.Parent = nil },
		"bound less":     func(h *api.Graph) { h.Bound = h.Bound[:2] },
		"bound more":     func(h *api.Graph) { h.Bound = append(h.Bound, 0) },
		"no bounds":      func(h *api.Graph) { h.Bound = nil },
		"node less":      func(h *api.Graph) { h.Nodes = h.Nodes[:1] },
		"node more":      func(h *api.Graph) { h.Nodes = append(h.Nodes, api.Node{}) },
		"no nodes":       func(h *api.Graph) { h.Nodes = nil },
		"edge less":      func(h *api.Graph) { h.Edges = h.Edges[:1] },
		"edge more":      func(h *api.Graph) { h.Edges = append(h.Edges, api.Edge{}) },
		"no edges":       func(h *api.Graph) { h.Edges = nil },
		"first ins less": func(h *api.Graph) { h.Nodes[0].Prog = h.Nodes[0].Prog[:1] },
		"last ins more":  func(h *api.Graph) { h.Nodes[1].Prog = append(h.Nodes[1].Prog, api.Ins{}) },
		"no program":     func(h *api.Graph) { h.Nodes[1].Prog = nil },
	} {
		h := deep(g)
		change(&h)
		same(t, name, g, h, false)
	}
}

func TestP8_1_NotSameInOrder(t *testing.T) {
	g := some()
	for name, change := range map[string]func(h *api.Graph){
		"parents": func(h *api.Graph) { slices.Reverse(h.Parent) },
		"bounds":  func(h *api.Graph) { slices.Reverse(h.Bound) },
		"nodes":   func(h *api.Graph) { slices.Reverse(h.Nodes) },
		"edges":   func(h *api.Graph) { slices.Reverse(h.Edges) },
		"program": func(h *api.Graph) { slices.Reverse(h.Nodes[0].Prog) },
		"lists":   func(h *api.Graph) { h.Parent, h.Bound = h.Bound, h.Parent },
	} {
		h := deep(g)
		change(&h)
		same(t, name, g, h, false)
	}
}

func TestP8_1_NoTwoGraphsHaveTheSameBytes(t *testing.T) {
	of := map[string]api.Graph{}
	for _, g := range graphs() {
		l, e := graph.Put(g)
		if e != api.OK {
			t.Fatal(g, e)
		}
		if h, ok := of[string(l)]; ok {
			same(t, "the same bytes", g, h, true)
		}
		of[string(l)] = g
	}
	few := graphs()[:150]
	var bytesOf [][]byte
	for _, g := range few {
		l, _ := slowPut(g)
		bytesOf = append(bytesOf, l)
	}
	for i, g := range few {
		for j, h := range few {
			same(t, "as their bytes", g, h, bytes.Equal(bytesOf[i], bytesOf[j]))
		}
	}
}

// roomy is a list with spare room behind it, and the whole of that room.
func roomy[E any](l []E, fill E) ([]E, []E) {
	whole := slices.Concat(l, slices.Repeat([]E{fill}, 20))
	return whole[:len(l)], whole
}

// roomyGraph is a graph whose lists all have spare room, and a call that tells of the graph with all of that room.
func roomyGraph(g api.Graph) (api.Graph, func() api.Graph) {
	g = deep(g)
	all := deep(g)
	g.Parent, all.Parent = roomy(g.Parent, 77)
	g.Bound, all.Bound = roomy(g.Bound, 77)
	g.Edges, all.Edges = roomy(g.Edges, api.Edge{From: 77})
	progs := make([][]api.Ins, len(g.Nodes))
	for i := range g.Nodes {
		g.Nodes[i].Prog, progs[i] = roomy(g.Nodes[i].Prog, api.Ins{Op: 77})
	}
	g.Nodes, all.Nodes = roomy(g.Nodes, api.Node{Kind: 77})
	return g, func() api.Graph {
		now := deep(all)
		for i, p := range progs {
			now.Nodes[i].Prog = slices.Clone(p)
		}
		return now
	}
}

func TestP8_1_NothingHandedInChanges(t *testing.T) {
	bad := some()
	bad.Edges[1].Port = -1
	for _, g := range append(graphs()[:100], some(), bad, api.Graph{}) {
		h, whole := roomyGraph(g)
		before := whole()
		graph.Put(h)
		graph.Same(h, h)
		graph.Same(h, g)
		graph.Same(one(), h)
		if !alike(whole(), before) {
			t.Fatal(g)
		}
	}
}

func TestP8_1_AnswersAreTheirOwn(t *testing.T) {
	for _, g := range graphs()[:100] {
		was := deep(g)
		a, _ := graph.Put(g)
		b, _ := graph.Put(g)
		for i := range a[:cap(a)] {
			a[:cap(a)][i] = 0xee
		}
		if want, _ := slowPut(was); !bytes.Equal(b, want) || !alike(g, was) {
			t.Fatal(g)
		}
		puts(t, g, b)
	}
}
