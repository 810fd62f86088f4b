package paths_test

import (
	"testing"

	"backwash/api"
	"backwash/hop"
	"backwash/paths"
	"backwash/ts"
)

// given is the timestamp at which an operator gives what it makes of one.
func given(g api.Graph, n int, t api.Time) (api.Time, bool) {
	switch g.Nodes[n].Kind {
	case api.KEnter:
		return ts.Enter(t)
	case api.KLeave:
		return ts.Leave(t)
	case api.KBack:
		return ts.Next(t)
	}
	return t, ts.Right(t)
}

func TestP10_2_WhatComesAlongAnEdgeMayCome(t *testing.T) {
	c := chance(8)
	seen := map[int]int{}
	many(func(g api.Graph) {
		p := tableOf(t, g)
		for _, e := range g.Edges {
			for _, x := range c.timesNear(takesAt(g, e.From), 12) {
				if u, ok := given(g, e.From, x); ok {
					seen[g.Nodes[e.From].Kind]++
					reaches(t, p, e.From, x, e.To, u, true)
				}
			}
		}
	})
	for kind := api.KInput; kind < api.KSink; kind++ {
		if seen[kind] < 100 {
			t.Errorf("kind %d: %d", kind, seen[kind])
		}
	}
}

// Along ways of many edges: what is given again and again may come of where it began.
func TestP10_2_WhatComesAlongAWayMayCome(t *testing.T) {
	c := chance(9)
	furthest := 0
	many(func(g api.Graph) {
		p := tableOf(t, g)
		for range 60 {
			n := c.below(len(p))
			x := c.timesNear(takesAt(g, n), 1)[0]
			m, u := n, x
			for length := range 40 {
				reaches(t, p, n, x, m, u, true)
				furthest = max(furthest, length)
				var on []int
				for _, e := range g.Edges {
					if e.From == m {
						on = append(on, e.To)
					}
				}
				next, ok := given(g, m, u)
				if len(on) == 0 || !ok {
					break
				}
				m, u = on[c.below(len(on))], next
			}
		}
	})
	if furthest < 39 {
		t.Error(furthest)
	}
}

func TestP10_2_EachPointMayComeOfItself(t *testing.T) {
	c := chance(11)
	many(func(g api.Graph) {
		p := tableOf(t, g)
		for n := range p {
			for _, x := range c.timesNear(takesAt(g, n), 5) {
				reaches(t, p, n, x, n, x, true)
			}
		}
	})
}

func TestP10_2_WhatMayComeOfWhatMayCome(t *testing.T) {
	c := chance(12)
	both := 0
	many(func(g api.Graph) {
		p := tableOf(t, g)
		times := make([][]api.Time, len(p))
		for n := range p {
			times[n] = c.timesNear(takesAt(g, n), 4)
		}
		for range 100 {
			n, m, k := c.below(len(p)), c.below(len(p)), c.below(len(p))
			for _, x := range times[n] {
				for _, u := range times[m] {
					for _, v := range times[k] {
						if paths.Reaches(p, n, x, m, u) && paths.Reaches(p, m, u, k, v) {
							both++
							reaches(t, p, n, x, k, v, true)
						}
					}
				}
			}
		}
	})
	if both < 10000 {
		t.Error(both)
	}
}

// All three of small graphs, at all timestamps of small numbers.
func TestP10_2_WhatMayComeOfWhatMayComeOfALoop(t *testing.T) {
	for _, g := range []api.Graph{loop(), forks()} {
		p := tableOf(t, g)
		times := make([][]api.Time, len(p))
		for n := range p {
			switch takesAt(g, n) {
			case 1:
				times[n] = []api.Time{of(0), of(1)}
			case 2:
				times[n] = []api.Time{of(0, 0), of(0, 1), of(0, 2), of(1, 0)}
			default:
				times[n] = []api.Time{of(0, 0, 0), of(0, 0, 1), of(0, 1, 0), of(0, 1, 1), of(0, 2, 0), of(1, 0, 0)}
			}
		}
		type point struct {
			n int
			t api.Time
		}
		var all []point
		for n := range p {
			for _, x := range times[n] {
				all = append(all, point{n, x})
			}
		}
		for _, a := range all {
			for _, b := range all {
				if !paths.Reaches(p, a.n, a.t, b.n, b.t) {
					continue
				}
				for _, c := range all {
					if paths.Reaches(p, b.n, b.t, c.n, c.t) {
						reaches(t, p, a.n, a.t, c.n, c.t, true)
					}
				}
			}
		}
	}
}

// Each step of the table, and an edge's or another step of the table behind it, has one of the table's at or before it.
func TestP10_2_StepsOnTopOfSteps(t *testing.T) {
	many(func(g api.Graph) {
		p := tableOf(t, g)
		if len(p) > 14 {
			return
		}
		for n := range p {
			for m := range p {
				for k := range p {
					for _, a := range p[n][m] {
						for _, b := range p[m][k] {
							both, ok := hop.Then(a, b)
							low := paths.Least(append([]api.Hop{both}, p[n][k]...))
							if !ok || len(low) != len(p[n][k]) {
								t.Fatalf("%v and %v, from %d to %d to %d, are not above %v", a, b, n, m, k, p[n][k])
							}
						}
					}
				}
			}
		}
	})
}
