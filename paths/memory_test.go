package paths_test

import (
	"reflect"
	"slices"
	"testing"

	"backwash/api"
	"backwash/paths"
)

// roomy is a list with spare room behind it, and the whole of that room.
func roomy[E any](l []E, fill E) ([]E, []E) {
	all := slices.Concat(l, slices.Repeat([]E{fill}, 8))
	return all[:len(l)], all
}

// roomyGraph is a graph whose lists all have spare room, and a call that tells of the graph with all of that room.
func roomyGraph(g api.Graph) (api.Graph, func() api.Graph) {
	var all api.Graph
	nodes := slices.Clone(g.Nodes)
	progs := make([][]api.Ins, len(nodes))
	for i := range nodes {
		nodes[i].Prog, progs[i] = roomy(nodes[i].Prog, api.Ins{Op: 77})
	}
	g.Parent, all.Parent = roomy(g.Parent, 77)
	g.Bound, all.Bound = roomy(g.Bound, 77)
	g.Nodes, all.Nodes = roomy(nodes, api.Node{Kind: 77})
	g.Edges, all.Edges = roomy(g.Edges, api.Edge{From: 77})
	return g, func() api.Graph {
		now := api.Graph{Parent: slices.Clone(all.Parent), Bound: slices.Clone(all.Bound), Nodes: slices.Clone(all.Nodes), Edges: slices.Clone(all.Edges)}
		for i, p := range progs {
			now.Nodes[i].Prog = slices.Clone(p)
		}
		return now
	}
}

// roomyTable is a table all of whose lists have spare room, and a call that tells of it with all of that room.
func roomyTable(p [][][]api.Hop) ([][][]api.Hop, func() [][][]api.Hop) {
	var all [][][]api.Hop
	p = copyTable(p)
	for n := range p {
		var row [][]api.Hop
		for m := range p[n] {
			steps, whole := roomy(p[n][m], api.Hop{From: 77})
			p[n][m] = steps
			row = append(row, whole)
		}
		all = append(all, row)
	}
	return p, func() [][][]api.Hop { return copyTable(all) }
}

func TestP10_1_TableLeavesTheGraph(t *testing.T) {
	graphs := append(byHand(), faulty()...)
	c := chance(15)
	for range 50 {
		graphs = append(graphs, c.rings())
	}
	for _, g := range graphs {
		h, told := roomyGraph(g)
		before := told()
		p := paths.Table(h)
		if !reflect.DeepEqual(told(), before) {
			t.Fatalf("changed: %+v", g)
		}
		if !sameTable(p, paths.Table(g)) {
			t.Fatalf("spare room matters: %+v", g)
		}
		// What comes of the graph later is nothing to the table.
		was := copyTable(p)
		clear(h.Edges)
		clear(h.Nodes)
		clear(h.Parent)
		if !sameTable(p, was) {
			t.Fatalf("kept: %+v", g)
		}
	}
}

// scribble over a list and all of its spare room.
func scribble[E any](l []E, fill E) {
	l = l[:cap(l)]
	for i := range l {
		l[i] = fill
	}
}

// apart tells whether lists share nothing: each is written over with a mark of its own, its spare room too, and has it still when all are, from the first to the last, and from the last to the first.
func apart[E any](lists [][]E, mark func(i int) E, marked func(x E, i int) bool) bool {
	holds := func() bool {
		for i, l := range lists {
			if slices.ContainsFunc(l, func(x E) bool { return !marked(x, i) }) {
				return false
			}
		}
		return true
	}
	for i, l := range lists {
		scribble(l, mark(i))
	}
	ok := holds()
	for i, l := range slices.Backward(lists) {
		scribble(l, mark(i))
	}
	return ok && holds()
}

func TestP10_1_TableIsNewMemory(t *testing.T) {
	many(func(g api.Graph) {
		p, was := paths.Table(g), copyTable(paths.Table(g))
		mark := func(i int) api.Hop { return api.Hop{From: 1000 + i} }
		if !apart(slices.Concat(p...), mark, func(h api.Hop, i int) bool { return h == mark(i) }) {
			t.Fatalf("two lists share: %+v", g)
		}
		row := func(i int) []api.Hop { return []api.Hop{mark(i)} }
		if !apart(p, row, func(l []api.Hop, i int) bool { return slices.Equal(l, row(i)) }) {
			t.Fatalf("two rows share: %+v", g)
		}
		if !sameTable(paths.Table(g), was) {
			t.Fatalf("another one hangs on the first: %+v", g)
		}
	})
}

func TestP10_1_LeastLeavesTheList(t *testing.T) {
	c := chance(16)
	lists := [][]api.Hop{nil, {{}}, {step(1, l(0), nil)}, {step(2, l(0, 0), nil), step(2, l(1), l(0))}, {step(1, l(1), nil), step(1, l(0), nil)}, wrongHops()}
	for range 50 {
		var x []api.Hop
		for range c.below(12) {
			x = append(x, c.hop(2, 2, 4))
		}
		lists = append(lists, x)
	}
	for _, x := range lists {
		h, all := roomy(x, step(2, l(0, 0), nil))
		before := slices.Clone(all)
		low := paths.Least(h)
		was := slices.Clone(low)
		if !slices.Equal(all, before) || !slices.Equal(low, slowLeast(x)) {
			t.Fatalf("changed: %v", x)
		}
		scribble(low, api.Hop{From: 77})
		if !slices.Equal(all, before) {
			t.Fatalf("shared: %v", x)
		}
		low = paths.Least(h)
		scribble(h, api.Hop{From: 77})
		if !slices.Equal(low, was) {
			t.Fatalf("kept: %v", x)
		}
	}
}

func TestP10_1_ReachesLeavesTheTable(t *testing.T) {
	for _, g := range byHand() {
		p, told := roomyTable(paths.Table(g))
		before := told()
		for n := range p {
			for m := range p {
				paths.Reaches(p, n, api.Time{D: takesAt(g, n), C: [4]int{1}}, m, api.Time{D: takesAt(g, m), C: [4]int{m % 3}})
				if !reflect.DeepEqual(told(), before) {
					t.Fatalf("from %d to %d of %+v", n, m, g)
				}
			}
		}
	}
}

// Of one timestamp alone, of which what comes to its own operator is a chain as it stands; of several; and of wrong ones among them.
func TestP10_1_AheadLeavesWhatItIsGiven(t *testing.T) {
	for _, g := range byHand() {
		p, told := roomyTable(paths.Table(g))
		before := told()
		for _, numbers := range [][]int{{2}, {0, 2}, {2, 0, 1, 0}, {2, -1, 0, -1, topEpoch + 1}} {
			var points, whole [][]api.Time
			for n := range p {
				var times []api.Time
				for _, x := range numbers {
					times = append(times, api.Time{D: takesAt(g, n), C: [4]int{x}})
				}
				list, all := roomy(times, api.Time{D: takesAt(g, n)})
				points, whole = append(points, list), append(whole, all)
			}
			were := slices.Clone(whole)
			for n := range were {
				were[n] = slices.Clone(were[n])
			}
			for m := range p {
				for n := range p {
					alone := make([][]api.Time, len(p))
					alone[n] = points[n]
					scribble(paths.Ahead(p, alone, m), api.Time{D: 77})
				}
				low := paths.Ahead(p, points, m)
				was := slices.Clone(low)
				scribble(low, api.Time{D: 77})
				if !slices.EqualFunc(whole, were, slices.Equal) || !reflect.DeepEqual(told(), before) || !slices.Equal(paths.Ahead(p, points, m), was) {
					t.Fatalf("ahead of %d of %+v", m, g)
				}
			}
		}
	}
}
