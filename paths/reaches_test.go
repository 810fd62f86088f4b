package paths_test

import (
	"math"
	"slices"
	"testing"

	"backwash/api"
	"backwash/paths"
)

// wrongTimes are timestamps that are not right.
func wrongTimes() []api.Time {
	return []api.Time{
		{}, {D: -1}, {D: 5}, {D: math.MaxInt}, {D: math.MinInt}, {D: 5, C: [4]int{1, 1, 1, 1}}, {D: 1, C: [4]int{0, 1}}, {D: 2, C: [4]int{0, 0, 0, 1}}, {D: 3, C: [4]int{0, 0, 0, -1}},
		of(-1), of(topEpoch + 1), of(math.MaxInt), of(math.MinInt), of(0, -1), of(0, topCount+1), of(0, 0, topCount+1), of(0, 0, 0, topCount+1), of(0, 0, math.MinInt), of(0, 0, 0, math.MaxInt),
	}
}

// someTimes are timestamps of each depth, each coordinate at its ends and between, and some that are not right.
func someTimes() []api.Time {
	all := wrongTimes()
	for _, first := range []int{0, 1, 2, topEpoch - 1, topEpoch} {
		all = append(all, of(first))
		for _, second := range []int{0, 1, topCount - 1, topCount} {
			all = append(all, of(first, second), of(first, second, 0), of(first, second, topCount), of(first, second, 1, topCount), of(first, second, topCount, 0))
		}
	}
	return all
}

// timesNear are timestamps of a depth with small numbers, and with great ones.
func (c *chance) timesNear(d, many int) []api.Time {
	var all []api.Time
	for range many {
		t := api.Time{D: d}
		for i := range d {
			t.C[i] = c.below(4)
			switch {
			case c.below(5) > 0:
			case i == 0:
				t.C[0] = topEpoch - c.below(3)
			default:
				t.C[i] = topCount - c.below(3)
			}
		}
		all = append(all, t)
	}
	return all
}

// slowReaches by the chapter's words.
func slowReaches(p [][][]trace, n int, t api.Time, m int, u api.Time) bool {
	if n < 0 || n >= len(p) || m < 0 || m >= len(p) {
		return false
	}
	return slices.ContainsFunc(p[n][m], func(x trace) bool {
		done, ok := x.at(t)
		return ok && timeLe(done, u)
	})
}

// reaches asks that Reaches answers so.
func reaches(t *testing.T, p [][][]api.Hop, n int, x api.Time, m int, u api.Time, want bool) {
	t.Helper()
	if paths.Reaches(p, n, x, m, u) != want {
		t.Fatalf("from %d at %v to %d at %v: not %v", n, x, m, u, want)
	}
}

func TestP10_1_ReachesOfGraphsByHand(t *testing.T) {
	times := someTimes()
	for _, g := range []api.Graph{plain(), loop(), forks(), nested()} {
		p, slow := asSlow(t, g)
		yes := 0
		for n := -1; n <= len(p); n++ {
			for m := -1; m <= len(p); m++ {
				if len(p) > 6 && (n < 4 || m < 4) {
					continue
				}
				for _, x := range times {
					for _, u := range times {
						want := slowReaches(slow, n, x, m, u)
						reaches(t, p, n, x, m, u, want)
						if want {
							yes++
						}
					}
				}
			}
		}
		if yes < 30 {
			t.Error(yes)
		}
	}
}

func TestP10_1_ReachesOfManyGraphs(t *testing.T) {
	c := chance(3)
	seen := map[bool]int{}
	many(func(g api.Graph) {
		p, slow := asSlow(t, g)
		for range 40 {
			n, m := c.below(len(p)), c.below(len(p))
			for _, x := range c.timesNear(takesAt(g, n), 6) {
				for _, u := range c.timesNear(takesAt(g, m), 6) {
					want := slowReaches(slow, n, x, m, u)
					reaches(t, p, n, x, m, u, want)
					seen[want]++
				}
			}
		}
	})
	if min(seen[true], seen[false]) < 10000 {
		t.Error(seen)
	}
}

func TestP10_1_ReachesByHand(t *testing.T) {
	p := tableOf(t, loop())
	reaches(t, p, 2, of(1, 0), 2, of(1, 0), true)
	reaches(t, p, 2, of(1, 0), 2, of(1, 1), true)
	reaches(t, p, 2, of(1, 0), 2, of(1, 2), true)
	reaches(t, p, 2, of(1, 0), 2, of(2, 0), true)
	reaches(t, p, 2, of(1, 0), 2, of(0, 5), false)
	reaches(t, p, 2, of(1, 0), 2, of(2), false)
	reaches(t, p, 2, of(1, 0), 2, of(2, 0, 0), false)
	reaches(t, p, 2, of(1), 2, of(1, 0), false)
	reaches(t, p, 2, of(1, 0, 0), 2, of(1, 0), false)
	reaches(t, p, 2, of(1, 1), 2, of(1, 0), false)
	reaches(t, p, 2, of(1, 1), 2, of(2, 0), false)
	reaches(t, p, 1, of(1), 2, of(1, 0), true)
	reaches(t, p, 1, of(1, 0), 2, of(1, 0), false)
	reaches(t, p, 1, of(1), 1, of(1), true)
	reaches(t, p, 2, of(1, 9), 5, of(1), true)
	reaches(t, p, 2, of(1, 9), 5, of(0), false)
	reaches(t, p, 4, of(1, 0), 2, of(topEpoch, topCount), false)
	reaches(t, p, 5, of(0), 0, of(topEpoch), false)
	p = tableOf(t, nested())
	reaches(t, p, 6, of(1, 2, 3, 4), 6, of(1, 2, 3, 4), true)
	reaches(t, p, 6, of(1, 2, 3, 4), 6, of(1, 2, 3, 3), false)
	reaches(t, p, 6, of(1, 2, 3, 4), 6, of(1, 2, 4, 0), true)
	reaches(t, p, 6, of(1, 2, 3, 4), 6, of(1, 3, 0, 0), true)
	reaches(t, p, 6, of(1, 2, 3, 4), 6, of(2, 2, 3, 3), false)
	reaches(t, p, 6, of(1, 2, 3, 4), 6, of(2, 2, 0, 0), false)
	reaches(t, p, 6, of(1, 2, 3, 4), 6, of(2, 3, 0, 0), true)
	reaches(t, p, 7, of(1, 2, 3, 4), 6, of(1, 2, 3, 4), false)
	reaches(t, p, 7, of(1, 2, 3, 4), 6, of(1, 2, 3, 5), true)
}

func TestP10_1_ReachesAtTheGreatest(t *testing.T) {
	p := tableOf(t, loop())
	reaches(t, p, 0, of(topEpoch), 0, of(topEpoch), true)
	reaches(t, p, 0, of(topEpoch), 5, of(topEpoch), true)
	reaches(t, p, 0, of(topEpoch), 5, of(topEpoch-1), false)
	reaches(t, p, 0, of(topEpoch-1), 5, of(topEpoch), true)
	reaches(t, p, 0, of(topEpoch), 2, of(topEpoch, topCount), true)
	reaches(t, p, 0, of(0), 5, of(topEpoch+1), false)
	reaches(t, p, 0, of(topEpoch+1), 5, of(topEpoch+1), false)
	reaches(t, p, 0, of(-1), 5, of(0), false)
	reaches(t, p, 0, of(0), 5, of(-1), false)
	reaches(t, p, 2, of(5, topCount), 2, of(5, topCount), true)
	reaches(t, p, 2, of(5, topCount+1), 2, of(5, topCount+1), false)
	reaches(t, p, 2, of(5, 0), 2, of(5, topCount+1), false)
	reaches(t, p, 3, of(5, topCount-1), 2, of(5, topCount), true)
	reaches(t, p, 3, of(5, topCount), 2, of(topEpoch, topCount), false)
	reaches(t, p, 3, of(5, topCount), 3, of(5, topCount), true)
	// A step is done at a timestamp as a whole: the counter that would be too great isn't there any more.
	reaches(t, p, 3, of(5, topCount), 4, of(topEpoch, topCount), false)
	reaches(t, p, 3, of(5, topCount), 5, of(5), true)
	p = tableOf(t, nested())
	reaches(t, p, 7, of(1, 2, 3, topCount), 6, of(1, 2, 3, topCount), false)
	reaches(t, p, 7, of(1, 2, 3, topCount), 6, of(1, 2, 4, 0), true)
	reaches(t, p, 7, of(1, 2, topCount, topCount), 6, of(1, topCount, topCount, topCount), true)
	reaches(t, p, 7, of(1, topCount, topCount, topCount), 6, of(topEpoch, topCount, topCount, topCount), false)
	reaches(t, p, 7, of(1, topCount, topCount, topCount), 13, of(1), true)
}

func TestP10_1_ReachesOfNoSuchOperators(t *testing.T) {
	for _, g := range []api.Graph{plain(), loop()} {
		p := tableOf(t, g)
		for _, n := range []int{-1, len(p), len(p) + 1, math.MaxInt, math.MinInt} {
			for m := range p {
				for d := 1; d <= 4; d++ {
					x := api.Time{D: d}
					reaches(t, p, n, x, m, x, false)
					reaches(t, p, m, x, n, x, false)
					reaches(t, p, n, x, n, x, false)
				}
			}
		}
	}
	for n := -1; n <= 1; n++ {
		reaches(t, nil, n, of(0), n, of(0), false)
		reaches(t, paths.Table(api.Graph{}), n, of(0), 0, of(0), false)
	}
}

// No call panics, whatever the table is.
func TestP10_1_ReachesAndAheadOfTablesThatAreNone(t *testing.T) {
	for _, p := range [][][][]api.Hop{{}, {nil}, {nil, nil}, {{nil}, nil}, {{wrongHops()}}, {{wrongHops(), wrongHops()}, {nil}}} {
		for n := -1; n < 4; n++ {
			for m := -1; m < 4; m++ {
				for _, x := range someTimes() {
					reaches(t, p, n, x, m, x, false)
					if l := paths.Ahead(p, [][]api.Time{{x}, {x}}, m); len(l) != 0 {
						t.Fatal(l)
					}
				}
			}
		}
	}
}
