package unit_test

import (
	"slices"
	"testing"

	"backwash/api"
	"backwash/unit"
)

// spare is a list with room behind it, in which other things stand.
func spare[T any](all []T, x T) []T {
	return append(slices.Clone(all), x, x, x)[:len(all)]
}

// odd is a slot that stands in spare room.
func odd() api.Slot { return stale(at(90), n(90, 90, 90)) }

// roomy is a worker with spare room behind each list in it, in which other things stand.
func roomy(u api.Unit) api.Unit {
	u.Cells, u.Red = spare(u.Cells, l(odd())), spare(u.Red, l(at(91)))
	for i, slots := range u.Cells {
		u.Cells[i] = spare(slots, odd())
		for j := range slots {
			for _, b := range bags(&u.Cells[i][j]) {
				*b = spare(*b, n(92, 92, 92))
			}
		}
	}
	for i, low := range u.Red {
		u.Red[i] = spare(low, at(93))
	}
	return u
}

// bags of a slot.
func bags(s *api.Slot) []*[]api.Item { return l(&s.In[0], &s.In[1], &s.Sent) }

// whole is a worker in memory of its own, whose lists reach to the ends of their room.
func whole(u api.Unit) api.Unit {
	u.Cells, u.Red = slices.Clone(u.Cells[:cap(u.Cells)]), slices.Clone(u.Red[:cap(u.Red)])
	for i, slots := range u.Cells {
		u.Cells[i] = slices.Clone(slots[:cap(slots)])
		for j := range u.Cells[i] {
			for _, b := range bags(&u.Cells[i][j]) {
				*b = slices.Clone((*b)[:cap(*b)])
			}
		}
	}
	for i, low := range u.Red {
		u.Red[i] = slices.Clone(low[:cap(low)])
	}
	return u
}

// roomyGraph is a graph with spare room behind its lists, and wholeGraph one whose lists reach to the ends of theirs.
func roomyGraph(g api.Graph) api.Graph {
	return api.Graph{Parent: spare(g.Parent, 77), Bound: spare(g.Bound, 78), Nodes: spare(g.Nodes, of(7, 7)), Edges: spare(g.Edges, keyed(0, 7, 1))}
}
func wholeGraph(g api.Graph) api.Graph {
	return api.Graph{Parent: slices.Clone(g.Parent[:cap(g.Parent)]), Bound: slices.Clone(g.Bound[:cap(g.Bound)]), Nodes: slices.Clone(g.Nodes[:cap(g.Nodes)]), Edges: slices.Clone(g.Edges[:cap(g.Edges)])}
}

// sameGraph: are they alike, thing by thing?
func sameGraph(g, h api.Graph) bool {
	return slices.Equal(g.Parent, h.Parent) && slices.Equal(g.Bound, h.Bound) && slices.Equal(g.Edges, h.Edges) && slices.EqualFunc(g.Nodes, h.Nodes, func(x, y api.Node) bool {
		return x.Kind == y.Kind && x.Scope == y.Scope && x.Arg == y.Arg && slices.Equal(x.Prog, y.Prog)
	})
}

// scribble over a list and its spare room.
func scribble[T any](all []T, x T) {
	all = all[:cap(all)]
	for i := range all {
		all[i] = x
	}
}

// apart says so if what was handed in was changed, its spare room too, if that plays a part, or if the rows of lists of an answer, or the list beside it, are not in memory of their own. (The lists within workers may be shared: nothing changes them.)
func apart[T comparable](t *testing.T, g api.Graph, u api.Unit, ask func(g api.Graph, u api.Unit) (api.Unit, []T)) {
	t.Helper()
	var zero T
	plain, list := ask(g, u)
	want, wantList := whole(plain), slices.Clone(list)
	for i, slots := range plain.Cells {
		want.Cells[i] = want.Cells[i][:len(slots)]
		for j := range slots {
			want.Cells[i][j].In[0], want.Cells[i][j].In[1], want.Cells[i][j].Sent = slices.Clone(slots[j].In[0]), slices.Clone(slots[j].In[1]), slices.Clone(slots[j].Sent)
		}
	}
	for i, low := range plain.Red {
		want.Red[i] = want.Red[i][:len(low)]
	}
	want.Cells, want.Red = want.Cells[:len(plain.Cells)], want.Red[:len(plain.Red)]
	h, v := roomyGraph(g), roomy(u)
	graphBefore, before := wholeGraph(h), whole(v)
	stands := func(got api.Unit, list []T, what string) {
		t.Helper()
		if !same(got, want) || !slices.Equal(list, wantList) {
			t.Fatalf("%s: %s and %v, not %s and %v", what, brief(got), short(list), brief(want), short(wantList))
		}
		if !same(whole(v), before) || !sameGraph(wholeGraph(h), graphBefore) {
			t.Fatalf("%s: %s was changed", what, brief(v))
		}
	}
	got, list := ask(h, v)
	stands(got, list, "handed in with spare room")
	next, nextList := ask(h, v)
	scribble(list, zero)
	stands(next, nextList, "the list beside it written over")
	stands(got, nextList, "the list beside it written over")
	scribble(got.Cells, l(odd()))
	scribble(got.Red, l(at(94)))
	stands(next, nextList, "an answer's rows written over")
	scribble(v.Cells, l(odd()))
	scribble(v.Red, l(at(94)))
	before = whole(v)
	stands(next, nextList, "the rows that were handed in written over")
}

// some are workers, right and not.
func some(g api.Graph) []api.Unit {
	all := l(unit.New(g, 1), busy(g))
	for i, u := range wrongUnits(g) {
		if i%23 < 2 {
			all = append(all, u)
		}
	}
	return all
}

// What is handed in to Come and Feed stays as it is, whether it comes or not.
func TestP16_1_WhatIsHandedInStays(t *testing.T) {
	for _, g := range graphs()[:4] {
		for _, u := range some(g) {
			come := func(m api.Msg) {
				t.Helper()
				apart(t, g, u, func(g api.Graph, u api.Unit) (api.Unit, []int) {
					got, _ := unit.Come(g, u, m)
					return got, nil
				})
			}
			come(once(-1, at(0), 1, 1))
			for edge, e := range g.Edges {
				come(once(edge, first(g, e.To), 1, 4))
				if unit.Right(g, u) {
					come(api.Msg{Edge: edge, Time: first(g, e.To), Rec: r(1, 4), N: -1, Colour: 1})
					come(once(edge, at(1, 1), 0, 4))
					come(once(edge, at(-1), 0, 4))
				}
			}
			for _, f := range l(fed(0, 0, r(1, 4)), fed(0, 3, r(1, 4)), fed(-1, 0, r(1, 4)), fed(0, -1, r(1, 4))) {
				apart(t, g, u, func(g api.Graph, u api.Unit) (api.Unit, []int) {
					got, _ := unit.Feed(g, u, f)
					return got, nil
				})
			}
		}
	}
}

// So does what is handed in to Right, Points, Make, Turn and Gives; letters and points are in memory of their own.
func TestP16_2_WhatIsHandedInStays(t *testing.T) {
	for _, g := range graphs()[:4] {
		for _, u := range some(g) {
			apart(t, g, u, func(g api.Graph, u api.Unit) (api.Unit, []api.Point) {
				unit.Right(g, u)
				return unit.Turn(g, u), unit.Points(g, u)
			})
			for node := range g.Nodes {
				for _, x := range l(first(g, node), at(2), at(1, 1)) {
					apart(t, g, u, func(g api.Graph, u api.Unit) (api.Unit, []api.Letter) {
						unit.Gives(g, node, x)
						got, letters, _ := unit.Make(g, u, p(node, x), x.D == 1, 2)
						return got, letters
					})
				}
			}
		}
		for node, slots := range busy(g).Cells {
			for _, s := range slots {
				for _, lazy := range []bool{false, true} {
					apart(t, g, busy(g), func(g api.Graph, u api.Unit) (api.Unit, []api.Letter) {
						got, letters, _ := unit.Make(g, u, p(node, s.Time), lazy, 2)
						return got, letters
					})
				}
			}
		}
	}
}

// What New answers is in memory of its own, list by list.
func TestP16_1_NewMemory(t *testing.T) {
	for _, g := range graphs() {
		u, v := unit.New(g, 1), unit.New(g, 1)
		scribble(u.Cells, l(odd()))
		if len(u.Red[0]) > 0 {
			t.Errorf("%s", brief(u))
		}
		scribble(u.Red, l(at(0)))
		if !same(v, unit.New(g, 1)) || len(v.Cells[0]) > 0 || len(v.Red[0]) > 0 {
			t.Errorf("%s", brief(v))
		}
	}
}
