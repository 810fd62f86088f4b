package unit_test

import (
	"fmt"
	"maps"
	"slices"
	"testing"

	"backwash/api"
	"backwash/ops"
	"backwash/unit"
)

// held is a slot of a slow worker: what came to each port and what was sent, in no order.
type held struct {
	in           [2]pile
	sent         pile
	dirty, fired bool
}

// slow is a worker without lists: its slots and what it sent of since it turned stand by their points, in no order.
type slow struct {
	g           api.Graph
	id, colour  int
	slots       map[api.Point]*held
	red         map[api.Point]int
	sent, got   [2]int
	late, backs int
}

// pile of records: how often each is there, in no order.
type pile map[api.Rec]int

// add a record, unless it would be there too often.
func (p pile) add(x api.Rec, many int) {
	if sum := p[x] + many; -often <= sum && sum <= often {
		p[x] = sum
	}
	if p[x] == 0 {
		delete(p, x)
	}
}

// all of a pile are added, more times as often.
func (p pile) all(q pile, more int) {
	for x, many := range q {
		p.add(x, more*many)
	}
}

// bag of a pile: those that are there so often at least, in order.
func (p pile) bag(least int) []api.Item {
	var b []api.Item
	for x, many := range p {
		if many >= least {
			b = append(b, api.Item{Rec: x, N: many})
		}
	}
	slices.SortFunc(b, func(x, y api.Item) int {
		return slices.Compare([]int64{x.Rec.K, x.Rec.V}, []int64{y.Rec.K, y.Rec.V})
	})
	return b
}

// piled is a bag as a pile.
func piled(b []api.Item) pile {
	p := pile{}
	for _, x := range b {
		p[x.Rec] = x.N
	}
	return p
}

// loosened is a worker that is right, slot by slot.
func loosened(g api.Graph, u api.Unit) *slow {
	s := &slow{g: g, id: u.ID, colour: u.Colour, slots: map[api.Point]*held{}, red: map[api.Point]int{}, sent: u.Sent, got: u.Got, late: u.Late, backs: u.Backs}
	for node, all := range u.Cells {
		for _, x := range all {
			s.slots[api.Point{Node: node, Time: x.Time}] = &held{[2]pile{piled(x.In[0]), piled(x.In[1])}, piled(x.Sent), x.Dirty, x.Fired}
		}
		for _, t := range u.Red[node] {
			s.red[api.Point{Node: node, Time: t}]++
		}
	}
	return s
}

// unit of a slow worker: its slots in order, but for those that are empty, and of what it sent of the lowest timestamps.
func (s *slow) unit() api.Unit {
	u := api.Unit{ID: s.id, Colour: s.colour, Sent: s.sent, Got: s.got, Late: s.late, Backs: s.backs, Cells: make([][]api.Slot, len(s.g.Nodes)), Red: make([][]api.Time, len(s.g.Nodes))}
	for _, p := range inOrder(slices.Collect(maps.Keys(s.slots))) {
		if x := s.slots[p]; len(x.in[0])+len(x.in[1])+len(x.sent) > 0 {
			slot := api.Slot{Time: p.Time, In: [2][]api.Item{x.in[0].bag(-often), x.in[1].bag(-often)}, Sent: x.sent.bag(-often), Dirty: x.dirty, Fired: x.fired}
			u.Cells[p.Node] = append(u.Cells[p.Node], slot)
		}
	}
	for _, p := range inOrder(slices.Collect(maps.Keys(s.red))) {
		if !slices.ContainsFunc(u.Red[p.Node], func(t api.Time) bool { return upTo(t, p.Time) }) {
			u.Red[p.Node] = append(u.Red[p.Node], p.Time)
		}
	}
	return u
}

// inOrder are points by the order of their timestamps, of one timestamp by that of their operators.
func inOrder(l []api.Point) []api.Point {
	slices.SortFunc(l, func(p, q api.Point) int {
		if order := slices.Compare(p.Time.C[:p.Time.D], q.Time.C[:q.Time.D]); order != 0 {
			return order
		}
		return p.Node - q.Node
	})
	return l
}

// slowTime: may a timestamp be?
func slowTime(t api.Time) bool {
	if t.D < 1 || t.D > 4 || t.C[0] < 0 || t.C[0] > 1<<20 {
		return false
	}
	for i := 1; i < 4; i++ {
		if t.C[i] < 0 || t.C[i] > 64 || i >= t.D && t.C[i] != 0 {
			return false
		}
	}
	return true
}

// upTo: is the one at or before the other? Both are right.
func upTo(a, b api.Time) bool {
	return a.D == b.D && a.C[0] <= b.C[0] && a.C[1] <= b.C[1] && a.C[2] <= b.C[2] && a.C[3] <= b.C[3]
}

// ahead: is the one ahead of the other in the one order? Both are right.
func ahead(a, b api.Time) bool { return slices.Compare(a.C[:a.D], b.C[:b.D]) < 0 }

// slowBag: is it a right bag?
func slowBag(b []api.Item) bool {
	for i, x := range b {
		if x.N == 0 || x.N < -often || x.N > often {
			return false
		}
		for _, y := range b[:i] {
			if y.Rec.K > x.Rec.K || y.Rec.K == x.Rec.K && y.Rec.V >= x.Rec.V {
				return false
			}
		}
	}
	return true
}

// slowCell: are they right slots?
func slowCell(all []api.Slot) bool {
	for i, s := range all {
		if !slowTime(s.Time) || !slowBag(s.In[0]) || !slowBag(s.In[1]) || !slowBag(s.Sent) || len(s.In[0])+len(s.In[1])+len(s.Sent) == 0 {
			return false
		}
		for _, x := range all[:i] {
			if !ahead(x.Time, s.Time) {
				return false
			}
		}
	}
	return true
}

// slowChain: are they lowest timestamps?
func slowChain(l []api.Time) bool {
	for i, t := range l {
		if !slowTime(t) {
			return false
		}
		for _, u := range l[:i] {
			if !ahead(u, t) || upTo(u, t) {
				return false
			}
		}
	}
	return true
}

// slowRight asks of each operator's lists all that the chapters say.
func slowRight(g api.Graph, u api.Unit) bool {
	if len(u.Cells) != len(g.Nodes) || len(u.Red) != len(g.Nodes) || u.Colour < 0 || u.Colour > 1 {
		return false
	}
	for node := range g.Nodes {
		if !slowCell(u.Cells[node]) || !slowChain(u.Red[node]) {
			return false
		}
	}
	return true
}

// come: a record comes; false: it may not.
func (s *slow) come(node, port int, t api.Time, x api.Rec, many int) bool {
	if !slowTime(t) || many == 0 || many < -often || many > often {
		return false
	}
	p := api.Point{Node: node, Time: t}
	if s.slots[p] == nil {
		s.slots[p] = &held{in: [2]pile{{}, {}}, sent: pile{}}
	}
	s.slots[p].in[port].add(x, many)
	straggler := 0
	for q, y := range s.slots {
		if q == p || s.g.Nodes[node].Kind == 14 && q.Node == node && upTo(t, q.Time) {
			if y.fired && !y.dirty {
				straggler = 1
			}
			y.dirty = true
		}
	}
	s.late += straggler
	return true
}

// slowCome puts the whole worker anew.
func slowCome(g api.Graph, u api.Unit, m api.Msg) (api.Unit, bool) {
	if !slowRight(g, u) || m.Colour != 0 && m.Colour != 1 {
		return u, false
	}
	s := loosened(g, u)
	for i, e := range g.Edges {
		if i == m.Edge && s.come(e.To, e.Port, m.Time, m.Rec, m.N) {
			s.got[m.Colour]++
			return s.unit(), true
		}
	}
	return u, false
}

// slowFeed puts the whole worker anew.
func slowFeed(g api.Graph, u api.Unit, f api.Feed) (api.Unit, bool) {
	if !slowRight(g, u) || f.Epoch < 0 || f.Epoch > 1<<20 {
		return u, false
	}
	s := loosened(g, u)
	for node, x := range g.Nodes {
		if node == f.Node && x.Kind == 1 {
			s.come(node, 0, at(f.Epoch), f.Rec, 1)
			return s.unit(), true
		}
	}
	return u, false
}

// slowPoints picks all stale slots, and puts them in order.
func slowPoints(g api.Graph, u api.Unit) []api.Point {
	var l []api.Point
	if slowRight(g, u) {
		for p, x := range loosened(g, u).slots {
			if x.dirty && g.Nodes[p.Node].Kind != 15 {
				l = append(l, p)
			}
		}
	}
	return inOrder(l)
}

// slowGives tells kind by kind.
func slowGives(g api.Graph, node int, t api.Time) (api.Time, bool) {
	if node < 0 || node >= len(g.Nodes) || !slowTime(t) {
		return api.Time{}, false
	}
	x := g.Nodes[node]
	depth := 1
	for scope := x.Scope; scope > 0; scope = g.Parent[scope] {
		depth++
	}
	switch {
	case x.Kind == 10 && t.D == depth-1:
		t.D++
	case x.Kind == 10 || t.D != depth:
		return api.Time{}, false
	case x.Kind == 11:
		t.D--
		t.C[t.D] = 0
	case x.Kind == 12:
		t.C[t.D-1]++
		if t.C[t.D-1] >= g.Bound[x.Scope] {
			return api.Time{}, false
		}
	}
	return t, true
}

// made: what an operator makes at a point of what came.
func (s *slow) made(p api.Point) ([]api.Item, bool) {
	bags := [][]api.Item{s.slots[p].in[0].bag(-often), s.slots[p].in[1].bag(-often)}
	if s.g.Nodes[p.Node].Kind == 14 {
		all := pile{}
		for q, x := range s.slots {
			if q.Node == p.Node && upTo(q.Time, p.Time) {
				all.all(x.in[0], 1)
			}
		}
		bags[1] = all.bag(-often)
	}
	return ops.Apply(s.g.Nodes[p.Node], bags)
}

// changes from the one pile to the other, as letters' numbers: what is taken back less than never, then what is given.
func changes(was, is pile, lazy bool) []api.Item {
	if !lazy && maps.Equal(was, is) {
		return nil
	}
	back, gift := pile{}, pile{}
	back.all(was, 1)
	gift.all(is, 1)
	if lazy {
		back.all(is, -1)
		gift.all(was, -1)
	}
	l := back.bag(1)
	for i := range l {
		l[i].N = -l[i].N
	}
	return append(l, gift.bag(1)...)
}

// slowMake puts the whole worker anew.
func slowMake(g api.Graph, u api.Unit, p api.Point, lazy bool, workers int) (api.Unit, []api.Letter, bool) {
	if !slices.Contains(slowPoints(g, u), p) || workers < 1 || workers > 64 {
		return u, nil, false
	}
	s := loosened(g, u)
	is, ok := s.made(p)
	if !ok {
		return u, nil, false
	}
	x := s.slots[p]
	changed := changes(x.sent, piled(is), lazy)
	x.sent, x.dirty, x.fired = piled(is), false, true
	var letters []api.Letter
	t, found := slowGives(g, p.Node, p.Time)
	for i, e := range g.Edges {
		for _, y := range changed {
			if !found || e.From != p.Node {
				continue
			}
			to := u.ID
			if e.Exchange {
				to = int((y.Rec.K%int64(workers) + int64(workers)) % int64(workers))
			}
			letters = append(letters, api.Letter{To: to, Msg: api.Msg{Edge: i, Time: t, Rec: y.Rec, N: y.N, Colour: u.Colour}})
			s.sent[u.Colour]++
			s.red[p]++
			if y.N < 0 {
				s.backs++
			}
		}
	}
	return s.unit(), letters, true
}

// slowTurn puts the whole worker anew.
func slowTurn(g api.Graph, u api.Unit) api.Unit {
	if !slowRight(g, u) {
		return u
	}
	s := loosened(g, u)
	s.colour, s.red = 1-u.Colour, nil
	return s.unit()
}

// sameSlot: are they alike, with nil as nothing?
func sameSlot(x, y api.Slot) bool {
	return x.Time == y.Time && x.Dirty == y.Dirty && x.Fired == y.Fired && slices.Equal(x.In[0], y.In[0]) && slices.Equal(x.In[1], y.In[1]) && slices.Equal(x.Sent, y.Sent)
}

// sameSlots: are they alike?
func sameSlots(a, b []api.Slot) bool { return slices.EqualFunc(a, b, sameSlot) }

// same workers, with nil as nothing? Their lists are as many.
func same(u, v api.Unit) bool {
	return u.ID == v.ID && u.Colour == v.Colour && u.Sent == v.Sent && u.Got == v.Got && u.Late == v.Late && u.Backs == v.Backs &&
		slices.EqualFunc(u.Cells, v.Cells, sameSlots) && slices.EqualFunc(u.Red, v.Red, slices.Equal)
}

// brief tells of a worker the numbers, and of each operator the first slots and lowest timestamps.
func brief(u api.Unit) string {
	told := fmt.Sprint("worker ", u.ID, " colour ", u.Colour, " sent ", u.Sent, " got ", u.Got, " late ", u.Late, " backs ", u.Backs, " lists ", len(u.Cells), len(u.Red))
	for node, all := range u.Cells {
		for _, s := range all[:min(len(all), 6)] {
			told += fmt.Sprint("; ", node, " at ", dots(s.Time), ": ", short(s.In[0]), short(s.In[1]), short(s.Sent), s.Dirty, s.Fired)
		}
	}
	for node, l := range u.Red {
		for _, t := range l[:min(len(l), 6)] {
			told += fmt.Sprint("; red ", node, " at ", dots(t))
		}
	}
	return told
}

// dots are a timestamp's coordinates.
func dots(t api.Time) []int { return t.C[:max(0, min(t.D, 4))] }

// short are the first ones of a list.
func short[T any](b []T) []T { return b[:min(len(b), 8)] }

// comes says so if Come does not answer as the slow one, and answers what it answers.
func comes(t *testing.T, g api.Graph, u api.Unit, m api.Msg) (api.Unit, bool) {
	t.Helper()
	got, ok := unit.Come(g, u, m)
	want, wanted := slowCome(g, u, m)
	if ok != wanted || !same(got, want) {
		t.Fatalf("Come(%s, %+v) = %s, %t, not %s, %t", brief(u), m, brief(got), ok, brief(want), wanted)
	}
	return got, ok
}

// feeds says so if Feed does not answer as the slow one, and answers what it answers.
func feeds(t *testing.T, g api.Graph, u api.Unit, f api.Feed) (api.Unit, bool) {
	t.Helper()
	got, ok := unit.Feed(g, u, f)
	want, wanted := slowFeed(g, u, f)
	if ok != wanted || !same(got, want) {
		t.Fatalf("Feed(%s, %+v) = %s, %t, not %s, %t", brief(u), f, brief(got), ok, brief(want), wanted)
	}
	return got, ok
}

// makes says so if Make does not answer as the slow one, and answers what it answers.
func makes(t *testing.T, g api.Graph, u api.Unit, p api.Point, lazy bool, workers int) (api.Unit, []api.Letter, bool) {
	t.Helper()
	got, letters, ok := unit.Make(g, u, p, lazy, workers)
	want, wanted, made := slowMake(g, u, p, lazy, workers)
	if ok != made || !same(got, want) || !slices.Equal(letters, wanted) {
		t.Fatalf("Make(%s, %v, %t, %d) = %s, %v, %t, not %s, %v, %t", brief(u), p, lazy, workers, brief(got), short(letters), ok, brief(want), short(wanted), made)
	}
	return got, letters, ok
}

// turns says so if Turn does not answer as the slow one, and answers what it answers.
func turns(t *testing.T, g api.Graph, u api.Unit) api.Unit {
	t.Helper()
	got, want := unit.Turn(g, u), slowTurn(g, u)
	if !same(got, want) {
		t.Fatalf("Turn(%s) = %s, not %s", brief(u), brief(got), brief(want))
	}
	return got
}

// tells says so if Right or Points does not answer as the slow one.
func tells(t *testing.T, g api.Graph, u api.Unit) {
	t.Helper()
	if got, want := unit.Right(g, u), slowRight(g, u); got != want {
		t.Fatalf("Right(%s) = %t", brief(u), got)
	}
	if got, want := unit.Points(g, u), slowPoints(g, u); !slices.Equal(got, want) {
		t.Fatalf("Points(%s) = %v, not %v", brief(u), got, want)
	}
}
