package paths_test

import (
	"math"
	"slices"
	"testing"

	"backwash/api"
	"backwash/chain"
	"backwash/paths"
)

// slowAhead by the chapter's words: of all that comes what nothing else is at or before, in the one order, each once.
func slowAhead(p [][][]trace, points [][]api.Time, m int) []api.Time {
	var come, low []api.Time
	for n := range p {
		if m < 0 || m >= len(p) || n >= len(points) {
			break
		}
		for _, t := range points[n] {
			for _, x := range p[n][m] {
				if done, ok := x.at(t); ok {
					come = append(come, done)
				}
			}
		}
	}
	for _, t := range come {
		lower := func(u api.Time) bool { return u != t && timeLe(u, t) }
		if !slices.ContainsFunc(come, lower) && !slices.Contains(low, t) {
			low = append(low, t)
		}
	}
	slices.SortFunc(low, func(a, b api.Time) int { return slices.Compare(a.C[:], b.C[:]) })
	return low
}

// ahead asks that Ahead answers so.
func ahead(t *testing.T, p [][][]api.Hop, points [][]api.Time, m int, want ...api.Time) {
	t.Helper()
	if got := paths.Ahead(p, points, m); !slices.Equal(got, want) {
		t.Fatalf("ahead of %d of %v: %v, not %v", m, points, got, want)
	}
}

func TestP10_1_AheadOfManyGraphs(t *testing.T) {
	c := chance(6)
	wrong := wrongTimes()
	several := 0
	many(func(g api.Graph) {
		p, slow := asSlow(t, g)
		for range 6 {
			points := make([][]api.Time, c.below(len(p)+3))
			for n := range points {
				d := 1 + c.below(4)
				if n < len(p) && c.below(8) > 0 {
					d = takesAt(g, n)
				}
				if c.below(3) == 0 {
					points[n] = c.timesNear(d, c.below(5))
				}
				if c.below(8) == 0 {
					points[n] = append(points[n], wrong[c.below(len(wrong))])
				}
			}
			for m := -1; m <= len(p); m++ {
				want := slowAhead(slow, points, m)
				ahead(t, p, points, m, want...)
				if len(want) > 1 {
					several++
				}
			}
		}
	})
	if several < 1000 {
		t.Error(several)
	}
}

func TestP10_1_AheadByHand(t *testing.T) {
	p := tableOf(t, loop())
	ahead(t, p, nil, 2)
	ahead(t, p, [][]api.Time{}, 2)
	ahead(t, p, make([][]api.Time, 6), 2)
	ahead(t, p, [][]api.Time{{of(4)}}, 2, of(4, 0))
	ahead(t, p, [][]api.Time{{of(4)}, nil, nil, {of(2, 1), of(1, 7)}}, 2, of(1, 8), of(2, 2), of(4, 0))
	ahead(t, p, [][]api.Time{{of(4)}, nil, nil, {of(2, 1), of(1, 7)}, nil, nil}, 2, of(1, 8), of(2, 2), of(4, 0))
	ahead(t, p, [][]api.Time{{of(4)}, nil, nil, {of(2, 1), of(1, 7)}}, 5, of(1))
	ahead(t, p, [][]api.Time{{of(4)}, nil, nil, {of(2, 1), of(1, 7)}}, 0, of(4))
	ahead(t, p, [][]api.Time{{of(4)}, nil, nil, {of(2, 1), of(1, 7)}}, 1, of(4))
	ahead(t, p, [][]api.Time{nil, nil, nil, nil, {of(2, 1)}}, 2)
	ahead(t, p, [][]api.Time{nil, nil, nil, nil, {of(2, 1)}}, 5, of(2))
	ahead(t, p, [][]api.Time{nil, nil, nil, nil, nil, {of(2), of(1), of(2)}}, 5, of(1))
	p = tableOf(t, nested())
	inner := [][]api.Time{6: {of(1, 2, 3, 4)}}
	ahead(t, p, inner, 6, of(1, 2, 3, 4), of(1, 2, 4, 0), of(1, 3, 0, 0))
	ahead(t, p, inner, 5, of(1, 2, 4), of(1, 3, 0))
	ahead(t, p, inner, 13, of(1))
	ahead(t, p, [][]api.Time{6: {of(1, 2, 3, 4), of(1, 2, 0, 9)}}, 6, of(1, 2, 0, 9), of(1, 2, 1, 0), of(1, 3, 0, 0))
}

func TestP10_1_AheadOfEachTimestampOnce(t *testing.T) {
	p := tableOf(t, plain())
	ahead(t, p, [][]api.Time{{of(3), of(1), of(3), of(1), of(2)}, {of(2), of(1)}}, 1, of(1))
	p = tableOf(t, loop())
	ahead(t, p, [][]api.Time{0: {of(3)}, 1: {of(3)}, 2: {of(3, 0), of(2, 1), of(1, 2), of(2, 1)}, 3: {of(1, 1)}}, 2, of(1, 2), of(2, 1), of(3, 0))
}

func TestP10_1_AheadOfFewerAndMoreLists(t *testing.T) {
	p := tableOf(t, plain())
	ahead(t, p, [][]api.Time{{of(3)}}, 1, of(3))
	ahead(t, p, [][]api.Time{nil, {of(3)}}, 1, of(3))
	ahead(t, p, [][]api.Time{nil, nil, {of(3)}}, 1)
	ahead(t, p, [][]api.Time{{of(3)}, {of(2)}, {of(1)}, {of(0)}}, 1, of(2))
	ahead(t, p, [][]api.Time{{of(3)}, {of(2)}, {of(1)}, {of(0)}}, 0, of(3))
	ahead(t, nil, [][]api.Time{{of(3)}}, 0)
	ahead(t, paths.Table(api.Graph{}), [][]api.Time{{of(3)}}, 0)
}

func TestP10_1_AheadOfWrongTimestamps(t *testing.T) {
	p := tableOf(t, loop())
	for _, w := range wrongTimes() {
		for n := range p {
			for m := range p {
				points := make([][]api.Time, 6)
				points[n] = []api.Time{w}
				ahead(t, p, points, m)
			}
		}
		ahead(t, p, [][]api.Time{{w, of(4), w}, {w}, {w, of(4, 1)}, {of(2, 1), w}}, 2, of(2, 2), of(4, 0))
	}
	// Right ones with too few coordinates and with too many.
	ahead(t, p, [][]api.Time{{of(1, 0), of(1, 0, 0), of(2)}, {of(0, 0)}, {of(0), of(0, 0, 0)}}, 2, of(2, 0))
	// At their greatest.
	ahead(t, p, [][]api.Time{3: {of(3, topCount)}}, 2)
	ahead(t, p, [][]api.Time{3: {of(3, topCount), of(4, topCount-1)}}, 2, of(4, topCount))
	ahead(t, p, [][]api.Time{3: {of(3, topCount)}}, 5, of(3))
	ahead(t, p, [][]api.Time{{of(topEpoch)}}, 5, of(topEpoch))
}

func TestP10_1_AheadOfNoSuchOperator(t *testing.T) {
	for _, g := range byHand() {
		p := tableOf(t, g)
		points := make([][]api.Time, len(p)+2)
		for n := range points {
			points[n] = []api.Time{of(0), of(0, 0), of(0, 0, 0), of(0, 0, 0, 0)}
		}
		for _, m := range []int{-1, len(p), len(p) + 1, math.MinInt, math.MaxInt} {
			ahead(t, p, points, m)
		}
	}
}

// What it answers is a chain, and covers just what may come of one of the timestamps.
func TestP10_1_AheadCoversWhatMayCome(t *testing.T) {
	c := chance(7)
	seen := map[bool]int{}
	many(func(g api.Graph) {
		p := tableOf(t, g)
		points := make([][]api.Time, len(p))
		for n := range points {
			if c.below(3) == 0 {
				points[n] = c.timesNear(takesAt(g, n), 1+c.below(3))
			}
		}
		for m := range p {
			l := paths.Ahead(p, points, m)
			if !chain.Right(l) {
				t.Fatalf("no chain: %v", l)
			}
			for _, u := range c.timesNear(takesAt(g, m), 10) {
				comes := false
				for n := range points {
					comes = comes || slices.ContainsFunc(points[n], func(x api.Time) bool { return paths.Reaches(p, n, x, m, u) })
				}
				if seen[comes]++; chain.Covers(l, u) != comes {
					t.Fatalf("at %d %v: %v of %v", m, u, comes, l)
				}
			}
		}
	})
	if min(seen[true], seen[false]) < 1000 {
		t.Error(seen)
	}
}
