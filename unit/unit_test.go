package unit_test

import (
	"math"
	"slices"
	"testing"

	"backwash/api"
	"backwash/unit"
	"backwash/valid"
)

// often is how often a record may be there, and be taken away ahead of being there.
const often = 1 << 31

// topEpoch is the last epoch.
const topEpoch = 1 << 20

// at is a timestamp.
func at(c ...int) api.Time {
	t := api.Time{D: len(c)}
	copy(t.C[:], c)
	return t
}

// r is a record, n an item, l a list; of and by are operators of a scope, the latter with a number; p is a point.
func r(k, v int64) api.Rec                    { return api.Rec{K: k, V: v} }
func n(many int, k, v int64) api.Item         { return api.Item{Rec: r(k, v), N: many} }
func l[T any](all ...T) []T                   { return all }
func of(scope, kind int) api.Node             { return api.Node{Kind: kind, Scope: scope} }
func by(scope, kind int, arg int64) api.Node  { return api.Node{Kind: kind, Scope: scope, Arg: arg} }
func p(node int, t api.Time) api.Point        { return api.Point{Node: node, Time: t} }
func fed(node, epoch int, x api.Rec) api.Feed { return api.Feed{Node: node, Epoch: epoch, Rec: x} }
func letter(to int, m api.Msg) api.Letter     { return api.Letter{To: to, Msg: m} }
func saw(b ...api.Item) [2][]api.Item         { return [2][]api.Item{b} }
func plain(from, to, port int) api.Edge       { return api.Edge{From: from, To: to, Port: port} }
func keyed(from, to, port int) api.Edge {
	return api.Edge{From: from, To: to, Port: port, Exchange: true}
}
func stale(t api.Time, b ...api.Item) api.Slot { return api.Slot{Time: t, In: saw(b...), Dirty: true} }
func once(edge int, t api.Time, k, v int64) api.Msg {
	return api.Msg{Edge: edge, Time: t, Rec: r(k, v), N: 1}
}

// made is a slot that stands as it was made, again one to which something came since.
func made(t api.Time, in [2][]api.Item, sent ...api.Item) api.Slot {
	return api.Slot{Time: t, In: in, Sent: sent, Fired: true}
}
func again(t api.Time, in [2][]api.Item, sent ...api.Item) api.Slot {
	return api.Slot{Time: t, In: in, Sent: sent, Fired: true, Dirty: true}
}

// flat is a graph without loops, and loops are one with some, each within the one ahead.
func flat(nodes []api.Node, edges ...api.Edge) api.Graph {
	return api.Graph{Parent: l(-1), Bound: l(0), Nodes: nodes, Edges: edges}
}
func loops(bounds []int, nodes []api.Node, edges ...api.Edge) api.Graph {
	g := flat(nodes, edges...)
	for i, bound := range bounds {
		g.Parent, g.Bound = append(g.Parent, i), append(g.Bound, bound)
	}
	return g
}

// line is an input, one operator, and a sink; all along exchanges.
func line(x api.Node) api.Graph {
	return flat(l(of(0, api.KInput), x, of(0, api.KSink)), keyed(0, 1, 0), keyed(1, 2, 0))
}

// kinds is a graph with an operator of each kind, some of whose edges lead from one operator, and lie apart.
func kinds() api.Graph {
	code := l(api.Ins{Op: api.OpVal}, api.Ins{Op: api.OpKey}, api.Ins{Op: api.OpEmit}, api.Ins{Op: api.OpKey}, api.Ins{Op: api.OpVal}, api.Ins{Op: api.OpEmit})
	return loops(l(3), l(of(0, api.KInput), api.Node{Kind: api.KProg, Prog: code}, by(0, api.KShift, 1), by(0, api.KKeep, 2), of(0, api.KInput), of(0, api.KConcat), of(0, api.KSum), of(0, api.KCount), of(0, api.KDistinct), of(0, api.KJoin),
		of(0, api.KInspect), of(0, api.KTotal), of(1, api.KEnter), of(1, api.KConcat), by(1, api.KShift, 1), of(1, api.KBack), of(1, api.KLeave), of(0, api.KSink), of(0, api.KSink), of(0, api.KSink)),
		plain(5, 18, 0), plain(0, 1, 0), keyed(5, 7, 0), plain(1, 2, 0), keyed(2, 3, 0), plain(3, 5, 0), keyed(4, 5, 1), keyed(5, 8, 0), keyed(0, 9, 0), keyed(4, 9, 1), plain(9, 10, 0), keyed(10, 11, 0), plain(11, 12, 0),
		plain(12, 13, 0), plain(15, 13, 1), plain(13, 14, 0), plain(14, 15, 0), keyed(14, 16, 0), keyed(5, 6, 0), plain(16, 17, 0), keyed(6, 19, 0))
}

// deep is a graph with a KTotal within three loops, the second of which goes around as often as may be.
func deep() api.Graph {
	return loops(l(2, 64, 3), l(of(0, api.KInput), of(1, api.KEnter), of(1, api.KConcat), of(2, api.KEnter), of(2, api.KConcat), of(3, api.KEnter), of(3, api.KConcat), of(3, api.KTotal), of(3, api.KBack), of(3, api.KLeave), of(2, api.KBack), of(2, api.KLeave), of(1, api.KBack), of(1, api.KLeave), of(0, api.KSink)),
		plain(0, 1, 0), plain(1, 2, 0), keyed(12, 2, 1), plain(2, 3, 0), plain(3, 4, 0), plain(10, 4, 1), plain(4, 5, 0), keyed(5, 6, 0), plain(8, 6, 1), keyed(6, 7, 0), plain(7, 8, 0), plain(7, 9, 0), keyed(9, 10, 0), plain(9, 11, 0), plain(11, 12, 0), plain(11, 13, 0), plain(13, 14, 0))
}

// graphs of all kinds that may run.
func graphs() []api.Graph {
	return l(kinds(), deep(), line(by(0, api.KShift, 1)), line(of(0, api.KTotal)), flat(l(of(0, api.KInput))), flat(l(of(0, api.KInput), of(0, api.KSink)), plain(0, 1, 0)))
}

// first timestamp that an operator takes.
func first(g api.Graph, node int) api.Time { return api.Time{D: valid.Takes(g, node)} }

// busy is a worker that has something of all: at each operator slots that are stale, made, and made stale, at timestamps of two depths, and timestamps of which it has sent.
func busy(g api.Graph) api.Unit {
	u := api.Unit{ID: 3, Colour: 1, Sent: [2]int{5, 6}, Got: [2]int{7, 8}, Late: 9, Backs: 10}
	for node := range g.Nodes {
		t, last := first(g, node), valid.Takes(g, node)-1
		next, third := t, t
		next.C[last], third.C[0] = 1, 2
		beside := at(1, 0)
		if t.D == 2 {
			beside = at(1, 0, 0)
		}
		u.Cells = append(u.Cells, l(made(t, saw(n(1, 1, 4)), n(1, 1, 4)), again(next, [2][]api.Item{l(n(2, 3, 6)), l(n(1, 3, 1))}, n(1, 2, 2), n(1, 3, 6)), stale(beside, n(1, 1, 4)), stale(third, n(-1, 1, 1), n(3, 4, 8))))
		slices.SortFunc(u.Cells[node], func(a, b api.Slot) int {
			return slices.Compare(a.Time.C[:a.Time.D], b.Time.C[:b.Time.D])
		})
		u.Red = append(u.Red, l(next))
	}
	return u
}

// wrongTimes are timestamps that are not right.
func wrongTimes() []api.Time {
	return l(api.Time{}, api.Time{D: -1}, api.Time{D: 5}, api.Time{D: 1 << 40}, at(-1), at(topEpoch+1), at(0, 65), at(0, 0, 65), at(0, 0, 0, 65), at(0, -1), at(1, 2, 3, -1), api.Time{D: 1, C: [4]int{0, 1}}, api.Time{D: 3, C: [4]int{1, 1, 1, 1}}, api.Time{C: [4]int{1}})
}

// wrongSlots are lists of slots that aren't right: out of the order, a timestamp twice, a slot that is empty, timestamps and bags that may not be.
func wrongSlots() [][]api.Slot {
	one := n(1, 1, 1)
	all := l(l(stale(at(1), one), stale(at(0), one)), l(stale(at(0, 1), one), stale(at(0, 0), one)), l(stale(at(2), one), stale(at(2), one)), l(stale(at(0), one), stale(at(1), one), stale(at(0, 5), one)), l(stale(at(0))), l(made(at(0), saw()), stale(at(1), one)), l(stale(at(0), n(0, 1, 1))), l(stale(at(0), one, one)), l(stale(at(0), n(1, 2, 1), one)), l(stale(at(0), n(often+1, 1, 1))),
		l(made(at(0), saw(one), n(0, 1, 1))), l(made(at(0), [2][]api.Item{l(one), l(n(1, 1, 2), one)})), l(again(at(0), saw(one), n(-often-1, 1, 1))))
	for _, t := range wrongTimes() {
		all = append(all, l(stale(t, one)), l(stale(at(0), one), stale(t, one)))
	}
	return all
}

// wrongChains are lists of timestamps that aren't right: out of the order, one of them at or before another one, or that may not be.
func wrongChains() [][]api.Time {
	all := l(l(at(1, 0), at(0, 1)), l(at(0, 0), at(0)), l(at(0), at(0)), l(at(0), at(1)), l(at(0, 1), at(0, 1)), l(at(0, 1), at(1, 1)), l(at(0), at(0, 3), at(1, 2), at(1)), l(at(0, 5), at(1, 2), at(2, 2)))
	for _, t := range wrongTimes() {
		all = append(all, l(t), l(at(0), t), l(t, at(1, 1)))
	}
	return all
}

// with is a list with another thing at a place.
func with[T any](all []T, i int, x T) []T {
	all = slices.Clone(all)
	all[i] = x
	return all
}

// wrongUnits are workers that aren't right, by each of the reasons.
func wrongUnits(g api.Graph) []api.Unit {
	var all []api.Unit
	wrong := func(change func(u *api.Unit)) {
		for _, u := range l(unit.New(g, 2), busy(g)) {
			change(&u)
			all = append(all, u)
		}
	}
	last := len(g.Nodes) - 1
	wrong(func(u *api.Unit) { u.Cells = u.Cells[:last] })
	wrong(func(u *api.Unit) { u.Cells = u.Cells[1:] })
	wrong(func(u *api.Unit) { u.Cells = nil })
	wrong(func(u *api.Unit) { u.Cells = append(slices.Clone(u.Cells), nil) })
	wrong(func(u *api.Unit) { u.Cells = slices.Concat(u.Cells, u.Cells) })
	wrong(func(u *api.Unit) { u.Red = u.Red[:last] })
	wrong(func(u *api.Unit) { u.Red = u.Red[1:] })
	wrong(func(u *api.Unit) { u.Red = nil })
	wrong(func(u *api.Unit) { u.Red = append(slices.Clone(u.Red), nil) })
	wrong(func(u *api.Unit) { u.Cells, u.Red = nil, nil })
	wrong(func(u *api.Unit) { u.Cells, u.Red = u.Cells[:last], u.Red[:last] })
	wrong(func(u *api.Unit) {
		u.Cells, u.Red = append(slices.Clone(u.Cells), nil), append(slices.Clone(u.Red), nil)
	})
	for _, colour := range l(-1, 2, 3, 256, math.MinInt, math.MaxInt, 1<<32, 1<<32+1) {
		wrong(func(u *api.Unit) { u.Colour = colour })
	}
	for _, node := range l(0, last/2, last) {
		for _, slots := range wrongSlots() {
			wrong(func(u *api.Unit) { u.Cells = with(u.Cells, node, slots) })
		}
		for _, times := range wrongChains() {
			wrong(func(u *api.Unit) { u.Red = with(u.Red, node, times) })
		}
	}
	return all
}

func TestP16_1_GraphsMayRun(t *testing.T) {
	for i, g := range graphs() {
		if e, where := valid.Check(g); e != api.OK {
			t.Fatalf("graph %d: error %d at %d", i, e, where)
		}
	}
}

func TestP16_1_New(t *testing.T) {
	for _, g := range graphs() {
		for _, id := range l(0, 1, 2, 63, 64, -1, math.MaxInt, math.MinInt) {
			u := unit.New(g, id)
			want := api.Unit{ID: id, Cells: make([][]api.Slot, len(g.Nodes)), Red: make([][]api.Time, len(g.Nodes))}
			if !same(u, want) || !unit.Right(g, u) || len(unit.Points(g, u)) > 0 {
				t.Errorf("New(%d) = %s", id, brief(u))
			}
			tells(t, g, u)
		}
	}
}

// A worker is right of a graph of as many operators, and of no other.
func TestP16_1_RightOfItsGraph(t *testing.T) {
	for i, g := range graphs() {
		for j, h := range graphs() {
			for _, u := range l(unit.New(h, 1), busy(h)) {
				tells(t, g, u)
				if unit.Right(g, u) != (len(g.Nodes) == len(h.Nodes)) {
					t.Errorf("a worker of the graph %d is right of %d, or not of its own", j, i)
				}
			}
		}
	}
}

// Whatever its number is, and what it has counted: it is right.
func TestP16_1_RightWhateverWasCounted(t *testing.T) {
	g := kinds()
	for _, x := range l(0, 1, -1, 64, math.MaxInt, math.MinInt) {
		u := busy(g)
		u.ID, u.Sent, u.Got, u.Late, u.Backs = x, [2]int{x, -x}, [2]int{-x, x}, x, x
		for _, colour := range l(0, 1) {
			u.Colour = colour
			if tells(t, g, u); !unit.Right(g, u) {
				t.Errorf("%s isn't right", brief(u))
			}
		}
	}
}

// A list is right of any timestamps, those of the operator's depth or not, and whichever are stale.
func TestP16_1_RightLists(t *testing.T) {
	g := kinds()
	one := n(1, 1, 1)
	for node := range g.Nodes {
		for _, slots := range l(nil, l[api.Slot](), l(stale(at(0), one)), l(stale(at(0), one), made(at(0, 0), saw(one)), made(at(0, 0, 0), saw(), one), stale(at(0, 1), one), again(at(topEpoch, 64, 64, 64), saw(n(-often, 1, 1))))) {
			u := busy(g)
			if u.Cells = with(u.Cells, node, slots); !unit.Right(g, u) {
				t.Errorf("%s isn't right", brief(u))
			}
			tells(t, g, u)
		}
		for _, low := range l(nil, l[api.Time](), l(at(0)), l(at(topEpoch, 64, 64, 64)), l(at(0), at(0, 3), at(0, 4, 0), at(1, 2), at(1, 3, 0), at(3, 0))) {
			u := busy(g)
			if u.Red = with(u.Red, node, low); !unit.Right(g, u) {
				t.Errorf("%s isn't right", brief(u))
			}
			tells(t, g, u)
		}
	}
}

// Of a worker that isn't right all but Right and Points answer it as it is, and nothing.
func TestP16_1_WrongUnits(t *testing.T) {
	for _, g := range graphs()[:4] {
		for _, u := range wrongUnits(g) {
			if tells(t, g, u); unit.Right(g, u) {
				t.Errorf("%s is right", brief(u))
			}
			if l := unit.Points(g, u); len(l) > 0 {
				t.Errorf("Points(%s) = %v", brief(u), l)
			}
			for edge, e := range g.Edges {
				if got, ok := unit.Come(g, u, once(edge, first(g, e.To), 1, 1)); ok || !same(got, u) {
					t.Fatalf("Come(%s) = %s, %t", brief(u), brief(got), ok)
				}
			}
			if got, ok := unit.Feed(g, u, fed(0, 1, r(1, 1))); ok || !same(got, u) {
				t.Fatalf("Feed(%s) = %s, %t", brief(u), brief(got), ok)
			}
			for node := range g.Nodes {
				for _, x := range l(at(0), at(1), at(0, 1), at(2)) {
					if got, letters, ok := unit.Make(g, u, p(node, x), true, 2); ok || letters != nil || !same(got, u) {
						t.Fatalf("Make(%s, %d, %v) = %s, %v, %t", brief(u), node, x, brief(got), letters, ok)
					}
				}
			}
			if got := unit.Turn(g, u); !same(got, u) {
				t.Fatalf("Turn(%s) = %s", brief(u), brief(got))
			}
		}
	}
}

// Along each edge, in each colour, to a worker of each colour: one slot of the edge's To gets the record at the edge's port, and one more is counted in the message's colour.
func TestP16_1_ComeAlongEachEdge(t *testing.T) {
	for _, g := range graphs() {
		for edge, e := range g.Edges {
			for i := range 4 {
				for _, many := range l(1, 2, -1, -3, often, -often) {
					u := unit.New(g, 5)
					u.Colour, u.Got, u.Sent, u.Backs, u.Late = i%2, [2]int{10, 20}, [2]int{1, 2}, 3, 4
					m := api.Msg{Edge: edge, Time: first(g, e.To), Rec: r(4, -7), N: many, Colour: i / 2}
					got, ok := comes(t, g, u, m)
					want := busy(g)
					want.ID, want.Colour, want.Got, want.Sent, want.Backs, want.Late = 5, i%2, [2]int{10, 20}, [2]int{1, 2}, 3, 4
					want.Got[i/2]++
					clear(want.Cells)
					clear(want.Red)
					slot := api.Slot{Time: m.Time, Dirty: true}
					slot.In[e.Port] = l(n(many, 4, -7))
					want.Cells[e.To] = l(slot)
					if !ok || !same(got, want) {
						t.Fatalf("Come(%s, %+v) = %s, %t", brief(u), m, brief(got), ok)
					}
				}
			}
		}
	}
}

// To a worker that has something already, at its slots and beside them.
func TestP16_1_ComeToABusyWorker(t *testing.T) {
	for _, g := range graphs() {
		u := busy(g)
		for edge, e := range g.Edges {
			for _, s := range u.Cells[e.To] {
				beside := s.Time
				beside.C[0] += 3
				for _, x := range l(s.Time, beside, at(0), at(topEpoch), at(0, 0, 0, 0), at(9, 64, 64)) {
					for _, y := range l(n(1, 1, 4), n(-1, 1, 4), n(-2, 3, 6), n(1, 9, 9), n(1, 3, 1), n(1, -1, 0)) {
						got, ok := comes(t, g, u, api.Msg{Edge: edge, Time: x, Rec: y.Rec, N: y.N, Colour: edge % 2})
						if !ok || !unit.Right(g, got) || got.Got[edge%2] != u.Got[edge%2]+1 || got.Got[1-edge%2] != u.Got[1-edge%2] {
							t.Fatalf("%s, %t", brief(got), ok)
						}
					}
				}
			}
		}
	}
}

// Along no edge, of no colour, and of what cell.Come refuses: it is as it was.
func TestP16_1_WhatMayNotCome(t *testing.T) {
	for _, g := range graphs() {
		for _, u := range l(unit.New(g, 1), busy(g)) {
			refused := func(m api.Msg) {
				t.Helper()
				if got, ok := comes(t, g, u, m); ok || !same(got, u) {
					t.Fatalf("Come(%s, %+v) = %s, %t", brief(u), m, brief(got), ok)
				}
			}
			for _, edge := range l(-1, -2, len(g.Edges), len(g.Edges)+1, 64, math.MaxInt, math.MinInt, 1<<32) {
				refused(once(edge, at(0), 1, 1))
			}
			for edge, e := range g.Edges {
				m := once(edge, first(g, e.To), 1, 1)
				for _, colour := range l(-1, 2, 3, -2, 256, math.MaxInt, math.MinInt, 1<<32) {
					m.Colour = colour
					refused(m)
				}
				m.Colour = 1
				for _, many := range l(0, often+1, -often-1, math.MaxInt, math.MinInt, 1<<32) {
					m.N = many
					refused(m)
				}
				m.N = 1
				for _, x := range wrongTimes() {
					m.Time = x
					refused(m)
				}
			}
		}
	}
}

// A message to a slot that stands is a straggler; to one that isn't made yet, or was made and is stale since, it is none.
func TestP16_1_StragglersAreCounted(t *testing.T) {
	g := line(of(0, api.KSum))
	u := unit.New(g, 0)
	step := func(m api.Msg, late int, got ...int) {
		t.Helper()
		next, ok := comes(t, g, u, m)
		if !ok || next.Late != late || next.Got != [2]int(got) || next.Backs != u.Backs || next.Sent != u.Sent {
			t.Fatalf("Come(%s, %+v) = %s, %t", brief(u), m, brief(next), ok)
		}
		u = next
	}
	do := func(x api.Point) {
		t.Helper()
		next, _, ok := makes(t, g, u, x, true, 1)
		if !ok || next.Late != u.Late || next.Got != u.Got {
			t.Fatalf("Make(%s, %v) = %s, %t", brief(u), x, brief(next), ok)
		}
		u = next
	}
	step(once(0, at(1), 1, 1), 0, 1, 0)
	step(once(0, at(1), 1, 2), 0, 2, 0)
	do(p(1, at(1)))
	step(once(0, at(0), 1, 2), 0, 3, 0)
	step(once(0, at(2), 1, 2), 0, 4, 0)
	step(once(0, at(1, 0), 1, 2), 0, 5, 0)
	red := once(0, at(1), 1, 2)
	red.Colour = 1
	step(red, 1, 5, 1)
	step(red, 1, 5, 2)
	do(p(1, at(1)))
	step(once(0, at(1), 7, 2), 2, 6, 2)
	do(p(1, at(1)))
	// What takes back is one, too.
	back := once(0, at(1), 1, 1)
	back.N = -1
	step(back, 3, 7, 2)
	// A sink makes nothing, so nothing comes too late for it.
	for range 3 {
		step(once(1, at(1), 7, 2), 3, u.Got[0]+1, 2)
	}
}

// Of a KTotal what comes ahead of a slot that stands is a straggler, too.
func TestP16_1_StragglersOfATotal(t *testing.T) {
	for _, kind := range l(api.KTotal, api.KSum) {
		g := line(of(0, kind))
		u := unit.New(g, 0)
		for _, x := range l(at(2), at(3), at(3, 1)) {
			u, _ = comes(t, g, u, once(0, x, 1, 1))
			u, _, _ = makes(t, g, u, p(1, x), false, 1)
		}
		for _, x := range l(at(0), at(1), at(2), at(3), at(4), at(0, 0), at(3, 0), at(3, 1), at(3, 2), at(4, 0), at(0, 0, 0)) {
			got, _ := comes(t, g, u, once(0, x, 1, 1))
			late := slices.Contains(l(at(2), at(3), at(3, 1)), x)
			if kind == api.KTotal {
				late = x.D == 1 && x.C[0] <= 3 || x.D == 2 && x.C[0] <= 3 && x.C[1] <= 1
			}
			if (got.Late == 1) != late || got.Late > 1 {
				t.Errorf("kind %d: what comes at %v: %s", kind, dots(x), brief(got))
			}
		}
	}
}

// Feeds to each operator, at epochs that may be: just inputs take them, and Got counts none.
func TestP16_1_FeedToEachOperator(t *testing.T) {
	for _, g := range graphs() {
		for node, x := range g.Nodes {
			for _, epoch := range l(0, 1, 17, topEpoch-1, topEpoch) {
				u := unit.New(g, 7)
				got, ok := feeds(t, g, u, fed(node, epoch, r(-3, 8)))
				if x.Kind == api.KInput {
					u.Cells = with(u.Cells, node, l(stale(at(epoch), n(1, -3, 8))))
				}
				if ok != (x.Kind == api.KInput) || !same(got, u) {
					t.Errorf("Feed to %d at %d: %s, %t", node, epoch, brief(got), ok)
				}
				u = busy(g)
				if got, ok = feeds(t, g, u, fed(node, epoch, r(1, 4))); got.Got != u.Got || ok != (x.Kind == api.KInput) {
					t.Errorf("Feed to %d at %d: %s, %t", node, epoch, brief(got), ok)
				}
			}
		}
	}
}

// Feeds to no operator, and at epochs that there are not.
func TestP16_1_WhatMayNotBeFed(t *testing.T) {
	for _, g := range graphs() {
		for _, u := range l(unit.New(g, 1), busy(g)) {
			refused := func(f api.Feed) {
				t.Helper()
				if got, ok := feeds(t, g, u, f); ok || !same(got, u) {
					t.Fatalf("Feed(%s, %+v) = %s, %t", brief(u), f, brief(got), ok)
				}
			}
			for _, node := range l(-1, -2, len(g.Nodes), len(g.Nodes)+1, 64, math.MaxInt, math.MinInt, 1<<32) {
				refused(fed(node, 0, r(1, 1)))
			}
			for _, epoch := range l(-1, -2, topEpoch+1, topEpoch+2, math.MaxInt, math.MinInt, 1<<32) {
				for node := range g.Nodes {
					refused(fed(node, epoch, r(1, 1)))
				}
			}
		}
	}
}

// What is fed to an epoch that stands is a straggler; a record that is fed again is there once more.
func TestP16_1_FedStragglers(t *testing.T) {
	g := line(by(0, api.KShift, 1))
	u := unit.New(g, 0)
	feed := func(epoch, late int, want ...api.Item) {
		t.Helper()
		next, ok := feeds(t, g, u, fed(0, epoch, r(1, 1)))
		i := slices.IndexFunc(next.Cells[0], func(s api.Slot) bool { return s.Time == at(epoch) })
		if !ok || next.Late != late || next.Got != [2]int{} || !slices.Equal(next.Cells[0][i].In[0], want) {
			t.Fatalf("%s, %t", brief(next), ok)
		}
		u = next
	}
	feed(3, 0, n(1, 1, 1))
	feed(3, 0, n(2, 1, 1))
	u, _, _ = makes(t, g, u, p(0, at(3)), true, 1)
	feed(2, 0, n(1, 1, 1))
	feed(4, 0, n(1, 1, 1))
	feed(3, 1, n(3, 1, 1))
	feed(3, 1, n(4, 1, 1))
	u, _, _ = makes(t, g, u, p(0, at(3)), true, 1)
	feed(3, 2, n(5, 1, 1))
}

// No call panics of graphs that may not run, nor does it make of them what isn't there.
func TestP16_1_GraphsThatMayNotRun(t *testing.T) {
	wrong := l(api.Graph{}, api.Graph{Nodes: l(of(0, api.KInput))}, flat(l(of(0, api.KInput)), plain(0, 7, 0), plain(0, -1, 0), plain(-3, 0, 9), plain(9, 0, -1)), flat(l(of(5, api.KBack), of(-1, api.KEnter), of(0, api.KBack), of(0, 99), of(0, -5), of(0, api.KLeave)), plain(0, 1, 0), keyed(2, 2, 5)),
		api.Graph{Parent: l(1, 0), Nodes: l(of(1, api.KBack), of(0, api.KLeave))}, api.Graph{Parent: l(-1, 0, 1, 2, 3, 4), Nodes: l(of(5, api.KEnter), of(4, api.KEnter), of(5, api.KLeave), of(3, api.KBack)), Edges: l(keyed(3, 3, 0))})
	times := append(wrongTimes(), at(0), at(0, 0), at(0, 0, 0), at(0, 0, 0, 0), at(1))
	for _, g := range wrong {
		for _, u := range l(unit.New(g, 1), api.Unit{}) {
			for edge := -1; edge < 6; edge++ {
				for _, x := range times {
					unit.Come(g, u, once(edge, x, 1, 1))
				}
			}
			for node := -1; node < 7; node++ {
				v, _ := unit.Feed(g, u, fed(node, 0, r(1, 1)))
				unit.Points(g, v)
				for _, x := range times {
					unit.Make(g, v, p(node, x), true, 3)
					unit.Gives(g, node, x)
				}
			}
			unit.Turn(g, u)
		}
	}
	// An edge leads nowhere.
	g := wrong[2]
	for edge := range 2 {
		if got, ok := unit.Come(g, unit.New(g, 1), once(edge, at(0), 1, 1)); ok || !same(got, unit.New(g, 1)) {
			t.Errorf("%s, %t", brief(got), ok)
		}
	}
}
