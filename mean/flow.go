package mean

import (
	"slices"

	"backwash/api"
	"backwash/bag"
	"backwash/ops"
	"backwash/ts"
)

// bags of an operator's ports; of one with a single port the second one is empty.
type bags [2][]api.Item

// news are the bags that came to each port, one by one: where many come ahead of being made, they are put together once.
type news [2][][]api.Item

// slot is a point that was made: what came to it, and what it gives; of a linear operator only how many records it gives.
type slot struct {
	came  bags
	gives []api.Item
	many  int
}

// flow is a graph that is run.
type flow struct {
	g    api.Graph
	from [][]api.Edge // of each operator the edges that lead from it
	left int          // how much work may still be done

	sums map[cell]sum // what came to KTotals up to now
	outs [][]api.Out  // of each sink its records up to now

	waits map[api.Point]news // of the epoch that is run: what came to points, of which nothing was made yet,
	slots map[api.Point]slot // the points that were made,
	queue queue              // those that wait, each once, in the order in which they are made,
	made  [][]api.Time       // of each KTotal the timestamps at which it was made, in order,
	sinks [][]api.Item       // and what came to each sink
}

// start a graph.
func start(g api.Graph, most int) *flow {
	n := len(g.Nodes)
	f := &flow{g: g, from: make([][]api.Edge, n), left: most, sums: map[cell]sum{}, outs: make([][]api.Out, n), queue: newQueue(g)}
	for _, e := range g.Edges {
		f.from[e.From] = append(f.from[e.From], e)
	}
	return f
}

// epoch is run, of which these are the feeds; false: there is no room.
func (f *flow) epoch(feeds []api.Feed) bool {
	n := len(f.g.Nodes)
	f.waits, f.slots = map[api.Point]news{}, map[api.Point]slot{}
	f.made, f.sinks = make([][]api.Time, n), make([][]api.Item, n)
	for part := range stretches(feeds, sameInput) {
		records := make([]api.Rec, 0, len(part))
		for _, x := range part {
			records = append(records, x.Rec)
		}
		f.come(api.Point{Node: part[0].Node, Time: timeOf(part[0].Epoch)}, 0, bag.Of(records))
	}
	for !f.queue.empty() {
		if !f.point(f.queue.take()) {
			return false
		}
	}
	f.tell(feeds[0].Epoch)
	return true
}

// timeOf an epoch.
func timeOf(epoch int) api.Time {
	return api.Time{D: 1, C: [api.MaxDepth]int{epoch}}
}

// tell the sinks' records of an epoch. A sink that had room for them has no more than a list may be long.
func (f *flow) tell(epoch int) {
	for n, came := range f.sinks {
		records, _ := bag.List(came)
		for _, r := range records {
			f.outs[n] = append(f.outs[n], api.Out{Node: n, Epoch: epoch, Rec: r})
		}
	}
}

// come to a port at a point.
func (f *flow) come(p api.Point, port int, b []api.Item) {
	w, waited := f.waits[p]
	if !waited {
		f.queue.put(p)
	}
	w[port] = append(w[port], b)
	f.waits[p] = w
}

// point is made of what came to it, and what has changed in what it gives is sent; false: there is no room. By the queue's order each point is made once, and all that it gives is new. But where a way leads out of a scope, straight into it again, and around, no time rises along it, and there is no such order: points are made anew then, till nothing changes any more, or the work is too much.
func (f *flow) point(p api.Point) bool {
	x, s, came := f.g.Nodes[p.Node], f.slots[p], f.waits[p].together()
	delete(f.waits, p)
	var change []api.Item
	var ok bool
	if ops.Linear(x.Kind) {
		change, ok = s.more(x, came)
	} else {
		change, ok = f.whole(p, &s, came)
	}
	f.slots[p] = s
	if x.Kind == api.KSink {
		f.sinks[p.Node] = change
	}
	return ok && f.send(p, change)
}

// more came to a linear operator: what it makes of that alone has changed, however much came ahead of it.
func (s *slot) more(x api.Node, came bags) ([]api.Item, bool) {
	gives, ok := ops.Apply(x, came[:])
	for port := range came {
		came[port] = bag.Minus(nil, came[port])
	}
	takes, also := ops.Apply(x, came[:])
	s.many += size(gives) - size(takes)
	return bag.Minus(gives, takes), ok && also && s.many <= api.MaxItems
}

// whole of what came to another operator: what it makes of that now, less what it made of it ahead, has changed.
func (f *flow) whole(p api.Point, s *slot, came bags) ([]api.Item, bool) {
	for port := range came {
		s.came[port] = bag.Plus(s.came[port], came[port])
	}
	ports := s.came
	if f.g.Nodes[p.Node].Kind == api.KTotal {
		f.add(p, came[0])
		f.again(p)
		ports[1] = f.total(p, ports[0])
	}
	was := s.gives
	gives, ok := ops.Apply(f.g.Nodes[p.Node], ports[:])
	s.gives = gives
	return bag.Minus(gives, was), ok
}

// send a change along all edges from a point; false: the work is too much. What is taken back counts, too: there may be no end of it.
func (f *flow) send(p api.Point, change []api.Item) bool {
	t, ok := f.givesAt(p)
	if !ok || len(change) == 0 {
		return true
	}
	n := size(change)
	for _, e := range f.from[p.Node] {
		if n > f.left {
			return false
		}
		f.left -= n
		f.come(api.Point{Node: e.To, Time: t}, e.Port, change)
	}
	return true
}

// givesAt which timestamp a point gives; false: what it gives is lost.
func (f *flow) givesAt(p api.Point) (api.Time, bool) {
	x := f.g.Nodes[p.Node]
	switch x.Kind {
	case api.KEnter:
		return ts.Enter(p.Time)
	case api.KLeave:
		return ts.Leave(p.Time)
	case api.KBack:
		t, ok := ts.Next(p.Time)
		return t, ok && t.C[t.D-1] < f.g.Bound[x.Scope]
	}
	return p.Time, true
}

// together are the bags of each port, put together.
func (w news) together() bags {
	return bags{together(w[0]), together(w[1])}
}

// together are bags, put together by halves, so that no record is gone through often.
func together(l [][]api.Item) []api.Item {
	if len(l) < 2 {
		return slices.Concat(l...)
	}
	half := len(l) / 2
	return bag.Plus(together(l[:half]), together(l[half:]))
}

// size of a bag, or of a change: how many records there are, or how many are given or taken back.
func size(b []api.Item) int {
	n := 0
	for _, x := range b {
		n += max(x.N, -x.N)
	}
	return n
}
