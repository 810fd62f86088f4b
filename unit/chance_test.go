package unit_test

import (
	"maps"
	"slices"
	"testing"

	"backwash/api"
	"backwash/mean"
	"backwash/paths"
	"backwash/unit"
	"backwash/valid"
)

// chance is a row of numbers that looks like chance, the same each time.
type chance uint64

// below n, from 0 on.
func (c *chance) below(n int) int {
	*c = *c*6364136223846793005 + 1442695040888963407
	return int(uint64(*c)>>33) % n
}

// one of a list.
func one[T any](c *chance, all []T) T { return all[c.below(len(all))] }

// plan is a graph that is put together by chance: of each scope the operators that give there.
type plan struct {
	api.Graph
	*chance
	give [][]int
}

// put an operator behind one that gives where it takes, port by port; its number.
func (x *plan) put(node api.Node, takes, gives, ports int) int {
	i := len(x.Nodes)
	x.Nodes = append(x.Nodes, node)
	for port := range ports {
		x.lead(one(x.chance, x.give[takes]), i, port)
	}
	x.give[gives] = append(x.give[gives], i)
	return i
}

// lead from an operator to another one: along an exchange where it has to be one, else by chance.
func (x *plan) lead(from, to, port int) {
	kind := x.Nodes[to].Kind
	gathers := slices.Contains(l(api.KSum, api.KCount, api.KDistinct, api.KJoin, api.KTotal), kind)
	x.Edges = append(x.Edges, api.Edge{From: from, To: to, Port: port, Exchange: gathers || x.below(2) == 0})
}

// fill a scope with operators and loops.
func (x *plan) fill(scope, most int) {
	kinds := l(api.KShift, api.KKeep, api.KConcat, api.KSum, api.KSum, api.KCount, api.KDistinct, api.KJoin, api.KInspect, api.KTotal, api.KTotal, api.KProg)
	for range 1 + x.below(4) {
		if len(x.Nodes)+8 > most {
			return
		}
		switch kind := one(x.chance, kinds); {
		case x.below(4) == 0 && len(x.Parent) < 8 && valid.Depth(x.Graph, scope) < 4:
			x.loop(scope, most)
		case scope > 0 && x.below(6) == 0:
			x.put(of(scope, api.KEnter), x.Parent[scope], scope, 1)
		case kind == api.KShift:
			x.put(by(scope, kind, int64(x.below(3)-1)), scope, scope, 1)
		case kind == api.KKeep:
			x.put(by(scope, kind, int64(1+x.below(3))), scope, scope, 1)
		case kind == api.KProg:
			x.put(api.Node{Kind: kind, Scope: scope, Prog: kindsProgram()}, scope, scope, 1)
		default:
			x.put(of(scope, kind), scope, scope, valid.Ports(kind))
		}
	}
}

// kindsProgram is the program of the graph of all kinds.
func kindsProgram() []api.Ins { return kinds().Nodes[1].Prog }

// loop within a scope.
func (x *plan) loop(outer, most int) {
	scope := len(x.Parent)
	x.Parent, x.Bound, x.give = append(x.Parent, outer), append(x.Bound, 1+x.below(4)), append(x.give, nil)
	x.put(of(scope, api.KEnter), outer, scope, 1)
	begin := x.put(of(scope, api.KConcat), scope, scope, 1)
	x.fill(scope, most-3)
	x.lead(x.put(of(scope, api.KBack), scope, scope, 1), begin, 1)
	x.put(of(scope, api.KLeave), scope, outer, 1)
}

// graph by chance that may run, of at most so many operators.
func (c *chance) graph(most int) api.Graph {
	x := &plan{Graph: flat(nil), chance: c, give: [][]int{nil}}
	for range 1 + c.below(2) {
		x.put(of(0, api.KInput), 0, 0, 0)
	}
	for range 3 {
		x.fill(0, most)
	}
	for range 1 + c.below(2) {
		x.put(of(0, api.KSink), 0, 0, 1)
		x.give[0] = slices.DeleteFunc(x.give[0], func(i int) bool { return x.Nodes[i].Kind == api.KSink })
	}
	for i := range x.Edges {
		j := i + c.below(len(x.Edges)-i)
		x.Edges[i], x.Edges[j] = x.Edges[j], x.Edges[i]
	}
	return x.Graph
}

// rec of few.
func (c *chance) rec() api.Rec {
	return r(int64(c.below(3)-1), one(c, l[int64](0, 1, 2, 3, 4, -4, 1<<63-1)))
}

// time that an operator takes, of few; seldom one that it doesn't, or that isn't right.
func (c *chance) time(g api.Graph, node int) api.Time {
	t := api.Time{D: valid.Takes(g, node)}
	switch c.below(40) {
	case 0:
		return one(c, wrongTimes())
	case 1:
		t.D = 1 + c.below(4)
	}
	for i := range t.D {
		t.C[i] = c.below(3)
	}
	return t
}

// msg along an edge, seldom one that may not come.
func (c *chance) msg(g api.Graph) api.Msg {
	edge := c.below(len(g.Edges))
	m := api.Msg{Edge: edge, Time: c.time(g, g.Edges[edge].To), Rec: c.rec(), N: one(c, l(1, 1, 1, 2, -1, -1, -2)), Colour: c.below(2)}
	switch c.below(60) {
	case 0:
		m.Edge = one(c, l(-1, len(g.Edges)))
	case 1:
		m.Colour = one(c, l(-1, 2))
	case 2:
		m.N = one(c, l(0, often, -often, often+1, -often-1, 1<<16))
	}
	return m
}

// point of a worker, seldom one that is none.
func (c *chance) point(g api.Graph, u api.Unit) api.Point {
	l := unit.Points(g, u)
	if node := c.below(len(g.Nodes)+2) - 1; len(l) == 0 || c.below(12) == 0 {
		return p(node, c.time(g, node))
	}
	return one(c, l)
}

// counted says so if what was counted of a point that was made isn't what its letters are, or one of them is at a timestamp to which the point's may not come.
func counted(t *testing.T, g api.Graph, table [][][]api.Hop, was, is api.Unit, x api.Point, letters []api.Letter) {
	t.Helper()
	backs := 0
	for _, y := range letters {
		e := g.Edges[y.Msg.Edge]
		if e.From != x.Node || !paths.Reaches(table, x.Node, x.Time, e.To, y.Msg.Time) || valid.Takes(g, e.To) != y.Msg.Time.D {
			t.Fatalf("of %v: %+v", x, y)
		}
		if y.Msg.N < 0 {
			backs++
		}
		if y.Msg.Colour != was.Colour || y.Msg.N == 0 || !e.Exchange && y.To != was.ID {
			t.Fatalf("of %v: %+v", x, y)
		}
	}
	sent := was.Sent
	sent[was.Colour] += len(letters)
	if is.Sent != sent || is.Backs != was.Backs+backs || is.Got != was.Got || is.Late != was.Late {
		t.Fatalf("%s made from %s by %d letters", brief(is), brief(was), len(letters))
	}
	red := slices.ContainsFunc(is.Red[x.Node], func(u api.Time) bool { return upTo(u, x.Time) })
	if len(letters) > 0 && !red {
		t.Fatalf("%s made from %s at %v", brief(is), brief(was), x)
	}
}

// Steps of one worker by chance, each held against the slow answer: it stays right, and what is counted is what was sent.
func TestP16_3_ManySteps(t *testing.T) {
	c := chance(16)
	seen := map[string]int{}
	for range 500 {
		g := c.graph(8 + c.below(25))
		if e, _ := valid.Check(g); e != api.OK {
			t.Fatalf("%d: %+v may not run", e, g)
		}
		table := paths.Table(g)
		u := unit.New(g, c.below(3))
		for step := range 120 {
			was := u
			var ok bool
			switch c.below(10) {
			case 0, 1, 2, 3:
				u, ok = comes(t, g, u, c.msg(g))
				seen["late"] += u.Late - was.Late
			case 4:
				u, ok = feeds(t, g, u, fed(c.below(3), c.below(4)-c.below(2), c.rec()))
			case 5, 6, 7, 8:
				var letters []api.Letter
				x := c.point(g, u)
				u, letters, ok = makes(t, g, u, x, c.below(2) == 0, one(&c, l(1, 2, 3, 3, 64, 65)))
				if ok {
					counted(t, g, table, was, u, x, letters)
				}
				if ok && len(letters) == 0 {
					seen["silent"]++
				}
				seen["letters"] += len(letters)
				seen["backs"] += u.Backs - was.Backs
			case 9:
				if ok = true; c.below(5) == 0 {
					u = turns(t, g, u)
				}
			}
			if !ok {
				seen["refused"]++
			}
			if !unit.Right(g, u) {
				t.Fatalf("%s isn't right", brief(u))
			}
			if step%10 == 0 {
				tells(t, g, u)
			}
		}
	}
	for what, least := range map[string]int{"late": 1000, "silent": 1000, "letters": 5000, "backs": 500, "refused": 1000} {
		if seen[what] < least {
			t.Errorf("%s: %d", what, seen[what])
		}
	}
}

// slots by chance, often not right.
func (c *chance) slots(g api.Graph, node int) []api.Slot {
	var all []api.Slot
	for i := range c.below(4) {
		s := api.Slot{Time: c.time(g, node), Dirty: c.below(2) == 0, Fired: c.below(2) == 0}
		s.Time.C[0] += i
		for _, b := range l(&s.In[0], &s.In[1], &s.Sent) {
			for k := range c.below(3) {
				*b = append(*b, n(one(c, l(1, 2, -1)), int64(k), int64(c.below(4))))
			}
		}
		all = append(all, s)
	}
	return all
}

// Workers of any kind, right and not, held against the slow answer.
func TestP16_3_ManyUnits(t *testing.T) {
	c := chance(163)
	right := 0
	for round := range 12000 {
		g := graphs()[round%4]
		u := unit.New(g, c.below(4))
		u.Colour = one(&c, l(0, 0, 1, 1, 1, 2))
		for range 1 + c.below(3) {
			node := c.below(len(g.Nodes))
			u.Cells[node] = c.slots(g, node)
			for range c.below(3) {
				u.Red[node] = append(u.Red[node], c.time(g, node))
			}
		}
		tells(t, g, u)
		if unit.Right(g, u) {
			right++
		}
		comes(t, g, u, c.msg(g))
		feeds(t, g, u, fed(c.below(len(g.Nodes)), c.below(3), c.rec()))
		makes(t, g, u, c.point(g, u), c.below(2) == 0, 1+c.below(3))
		turns(t, g, u)
	}
	if right < 2000 || right > 10000 {
		t.Errorf("%d were right", right)
	}
}

// crew are workers, and the letters that are on their way between them.
type crew struct {
	g     api.Graph
	table [][][]api.Hop
	units []api.Unit
	way   []api.Letter
}

// newCrew has so many workers.
func newCrew(g api.Graph, workers int) *crew {
	x := &crew{g: g, table: paths.Table(g)}
	for id := range workers {
		x.units = append(x.units, unit.New(g, id))
	}
	return x
}

// step: some worker makes a point, or some letter comes; false: there is nothing to be done.
func (x *crew) step(t *testing.T, c *chance) bool {
	t.Helper()
	w := c.below(len(x.units))
	points := unit.Points(x.g, x.units[w])
	if len(points) > 0 && (len(x.way) == 0 || c.below(3) == 0) {
		y := one(c, points)
		u, letters, ok := makes(t, x.g, x.units[w], y, c.below(2) == 0, len(x.units))
		if !ok {
			t.Fatalf("%v isn't made", y)
		}
		counted(t, x.g, x.table, x.units[w], u, y, letters)
		x.units[w], x.way = u, append(x.way, letters...)
		return true
	}
	if len(x.way) > 0 {
		i := c.below(len(x.way))
		y := x.way[i]
		x.way = slices.Delete(x.way, i, i+1)
		u, ok := comes(t, x.g, x.units[y.To], y.Msg)
		if !ok {
			t.Fatalf("%+v doesn't come", y)
		}
		x.units[y.To] = u
		return true
	}
	return slices.ContainsFunc(x.units, func(u api.Unit) bool { return len(unit.Points(x.g, u)) > 0 })
}

// onTheWay says so if of some colour what was sent, less what was got, is not what is on the way.
func (x *crew) onTheWay(t *testing.T) {
	t.Helper()
	var sent, way [2]int
	for _, u := range x.units {
		for colour := range 2 {
			sent[colour] += u.Sent[colour] - u.Got[colour]
		}
	}
	for _, y := range x.way {
		way[y.Msg.Colour]++
	}
	if sent != way {
		t.Fatalf("%v are on the way, not %v", way, sent)
	}
}

// sunk: what the sinks have got, at all workers together.
func (x *crew) sunk() map[api.Out]int {
	all := map[api.Out]int{}
	for _, u := range x.units {
		for node, slots := range u.Cells {
			for _, s := range slots {
				for _, y := range s.In[0] {
					if x.g.Nodes[node].Kind == api.KSink {
						all[api.Out{Node: node, Epoch: s.Time.C[0], Rec: y.Rec}] += y.N
					}
				}
			}
		}
	}
	maps.DeleteFunc(all, func(_ api.Out, many int) bool { return many == 0 })
	return all
}

// Several workers, whatever comes and is made first, and whenever they turn: at any time as many are on the way as were sent and not got; and in the end the sinks have what the graph means.
func TestP16_3_WorkersTogether(t *testing.T) {
	c := chance(1630)
	told, late, left := 0, 0, 0
	for range 600 {
		g := c.graph(8 + c.below(12))
		var all []api.Feed
		for range 1 + c.below(6) {
			node := c.below(2)
			if g.Nodes[node].Kind != api.KInput {
				node = 0
			}
			all = append(all, fed(node, c.below(3), c.rec()))
		}
		outs, e := mean.Run(g, all, 300)
		if e != api.OK {
			continue
		}
		x := newCrew(g, 1+c.below(4))
		feeds, acts := slices.Clone(all), 0
		for ; acts < 1500; acts++ {
			switch {
			case len(feeds) > 0 && c.below(5) == 0:
				w := c.below(len(x.units))
				x.units[w], _ = unit.Feed(g, x.units[w], feeds[0])
				feeds = feeds[1:]
			case c.below(30) == 0:
				w := c.below(len(x.units))
				x.units[w] = turns(t, g, x.units[w])
			case !x.step(t, &c) && len(feeds) == 0:
				acts = 1 << 20
			}
			x.onTheWay(t)
		}
		if acts < 1<<20 {
			left++
			continue
		}
		want := map[api.Out]int{}
		for _, y := range outs {
			want[y]++
		}
		if got := x.sunk(); !maps.Equal(got, want) {
			t.Fatalf("%v, not %v, of %+v fed %v", got, want, g, all)
		}
		for _, u := range x.units {
			late += u.Late
		}
		if len(outs) > 0 {
			told++
		}
	}
	if told < 300 || late < 1000 || left > 60 {
		t.Errorf("%d told something, %d stragglers, %d left", told, late, left)
	}
}
