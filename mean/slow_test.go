package mean_test

import (
	"cmp"
	"slices"

	"backwash/api"
	"backwash/ops"
	"backwash/valid"
)

// answer is what a graph means, slowly: its records, its work, whether some operator has no room; and whether it settled at all.
type answer struct {
	outs          []api.Out
	work          int
	full, settled bool
}

// slow answer by the chapter's words. It asks of each operator, at each timestamp that there may be, what comes to it from what the others give, and what it gives then, again and again, till nothing changes any more.
type slow struct {
	g      api.Graph
	epochs []int
	fed    map[api.Point]map[api.Rec]int
	given  map[api.Point]map[api.Rec]int
	full   map[api.Point]bool
}

// slowly answers.
func slowly(g api.Graph, feeds []api.Feed) answer {
	s := &slow{g: g, fed: map[api.Point]map[api.Rec]int{}, given: map[api.Point]map[api.Rec]int{}, full: map[api.Point]bool{}}
	for _, f := range feeds {
		p := api.Point{Node: f.Node, Time: api.Time{D: 1, C: [4]int{f.Epoch}}}
		if s.fed[p] == nil {
			s.fed[p] = map[api.Rec]int{}
		}
		s.fed[p][f.Rec]++
		s.epochs = append(s.epochs, f.Epoch)
	}
	slices.Sort(s.epochs)
	s.epochs = slices.Compact(s.epochs)
	for range 300 {
		if !s.sweep() {
			return s.answer()
		}
	}
	return answer{}
}

// sweep over all points; has something changed?
func (s *slow) sweep() bool {
	changed := false
	for n := range s.g.Nodes {
		for _, t := range s.times(n) {
			p := api.Point{Node: n, Time: t}
			gives, ok := s.makes(p)
			s.full[p] = !ok
			if !sameCounts(gives, s.given[p]) {
				s.given[p] = gives
				changed = true
			}
		}
	}
	return changed
}

// times are all timestamps that an operator may take: each epoch that is fed, and the counters below the bounds around.
func (s *slow) times(n int) []api.Time {
	scope := s.g.Nodes[n].Scope
	if s.g.Nodes[n].Kind == api.KEnter {
		scope = s.g.Parent[scope]
	}
	return s.timesOf(scope)
}

func (s *slow) timesOf(scope int) []api.Time {
	var l []api.Time
	if scope == 0 {
		for _, e := range s.epochs {
			l = append(l, api.Time{D: 1, C: [4]int{e}})
		}
		return l
	}
	for _, t := range s.timesOf(s.g.Parent[scope]) {
		for i := range s.g.Bound[scope] {
			u := t
			u.C[u.D] = i
			u.D++
			l = append(l, u)
		}
	}
	return l
}

// makes: what an operator gives of what comes now; false: it has no room.
func (s *slow) makes(p api.Point) (map[api.Rec]int, bool) {
	x := s.g.Nodes[p.Node]
	ports := [][]api.Item{asBag(s.comes(p, 0)), asBag(s.comes(p, 1))}
	if x.Kind == api.KTotal {
		all := map[api.Rec]int{}
		for _, t := range s.times(p.Node) {
			if notAbove(t, p.Time) {
				addTo(all, s.comes(api.Point{Node: p.Node, Time: t}, 0))
			}
		}
		ports[1] = asBag(all)
	}
	made, ok := ops.Apply(x, ports)
	gives := map[api.Rec]int{}
	for _, item := range made {
		gives[item.Rec] = item.N
	}
	return gives, ok
}

// comes: what is given at this timestamp by the edge to the port.
func (s *slow) comes(p api.Point, port int) map[api.Rec]int {
	if s.g.Nodes[p.Node].Kind == api.KInput && port == 0 {
		return s.fed[p]
	}
	all := map[api.Rec]int{}
	for _, e := range s.g.Edges {
		if e.To != p.Node || e.Port != port {
			continue
		}
		for _, t := range s.whence(s.g.Nodes[e.From], p.Time) {
			addTo(all, s.given[api.Point{Node: e.From, Time: t}])
		}
	}
	return all
}

// whence: the timestamps at which an operator makes what it gives at this one.
func (s *slow) whence(x api.Node, t api.Time) []api.Time {
	last := t.D - 1
	switch x.Kind {
	case api.KEnter:
		if t.C[last] > 0 {
			return nil
		}
		t.D = last
	case api.KBack:
		if t.C[last] == 0 || t.C[last] >= s.g.Bound[x.Scope] {
			return nil
		}
		t.C[last]--
	case api.KLeave:
		var l []api.Time
		for i := range s.g.Bound[x.Scope] {
			u := t
			u.C[t.D] = i
			u.D++
			l = append(l, u)
		}
		return l
	}
	return many(t)
}

// answer, once nothing changes.
func (s *slow) answer() answer {
	a := answer{settled: true}
	for n, x := range s.g.Nodes {
		for _, t := range s.times(n) {
			p := api.Point{Node: n, Time: t}
			a.full = a.full || s.full[p]
			for port := range valid.Ports(x.Kind) {
				b := asBag(s.comes(p, port))
				for _, item := range b {
					a.work += item.N
					if x.Kind == api.KSink && a.work < 1<<24 {
						a.outs = append(a.outs, times(item.N, api.Out{Node: n, Epoch: t.C[0], Rec: item.Rec})...)
					}
				}
			}
		}
	}
	return a
}

// notAbove: is none of a timestamp's numbers above another one's, of as many?
func notAbove(a, b api.Time) bool {
	for i, c := range a.C {
		if c > b.C[i] {
			return false
		}
	}
	return true
}

// addTo some records others.
func addTo(to, more map[api.Rec]int) {
	for r, n := range more {
		to[r] += n
	}
}

// sameCounts: is each record as often in both?
func sameCounts(a, b map[api.Rec]int) bool {
	for r, n := range a {
		if b[r] != n {
			return false
		}
	}
	return len(a) == len(b)
}

// asBag puts records in order.
func asBag(counts map[api.Rec]int) []api.Item {
	var b []api.Item
	for r, n := range counts {
		b = append(b, api.Item{Rec: r, N: n})
	}
	slices.SortFunc(b, func(x, y api.Item) int {
		return cmp.Or(cmp.Compare(x.Rec.K, y.Rec.K), cmp.Compare(x.Rec.V, y.Rec.V))
	})
	return b
}
