package valid_test

import (
	"fmt"
	"math"
	"slices"
	"testing"

	"backwash/api"
)

// edgeNumbers are numbers on both sides of all ends, and some whose low bits look like small ones.
var edgeNumbers = []int{math.MinInt, math.MinInt + 1, -1 << 32, -1 << 31, -65, -64, -16, -3, -2, -1, 0, 1, 2, 3, 4, 5, 6, 7, 8, 9, 10, 11, 12, 13, 14, 15, 16, 17, 18, 19, 20, 21, 22, 23, 24, 31, 32, 33, 63, 64, 65, 66, 128, 256, 257, 1<<16 + 1, 1<<31 - 1, 1 << 31, 1 << 32, 1<<32 + 1, 1<<32 + 2, math.MaxInt - 1, math.MaxInt}

// onScopes is plain with other scopes, that no operator is in.
func onScopes(parent, bound []int) api.Graph {
	g := plain()
	g.Parent, g.Bound = parent, bound
	return g
}

func TestP9_1_TheExamples(t *testing.T) {
	checks(t, "an input, and a sink behind it", plain(), api.OK, 0)
	checks(t, "a sink alone", api.Graph{Parent: []int{-1}, Bound: []int{0}, Nodes: []api.Node{{Kind: api.KSink}}}, api.ErrPort, 0)
	checks(t, "an operator of each kind", whole(), api.OK, 0)
	checks(t, "an input alone", api.Graph{Parent: []int{-1}, Bound: []int{0}, Nodes: []api.Node{{Kind: api.KInput}}}, api.OK, 0)
	checks(t, "nothing", api.Graph{}, api.ErrScope, 0)
}

func TestP9_1_HowManyScopes(t *testing.T) {
	for parents := range 12 {
		for bounds := range 12 {
			parent := append([]int{-1}, make([]int, 20)...)[:parents]
			bound := append([]int{0}, slices.Repeat([]int{1}, 20)...)[:bounds]
			if parents == bounds && 1 <= parents && parents <= 8 {
				checks(t, "scopes", onScopes(parent, bound), api.OK, 0)
			} else {
				checks(t, "scopes", onScopes(parent, bound), api.ErrScope, 0)
			}
		}
	}
	checks(t, "empty", onScopes([]int{}, []int{}), api.ErrScope, 0)
	checks(t, "many", onScopes(append([]int{-1}, make([]int, 1<<16)...), append([]int{0}, slices.Repeat([]int{1}, 1<<16)...)), api.ErrScope, 0)
}

func TestP9_1_Parents(t *testing.T) {
	for _, n := range edgeNumbers {
		for many := 1; many <= 8; many++ {
			parent := append([]int{n}, make([]int, many-1)...)
			want := api.ErrScope
			if n == -1 {
				want = api.OK
			}
			checks(t, "first parent", onScopes(parent, append([]int{0}, slices.Repeat([]int{1}, many-1)...)), want, 0)
			for at := 1; at < many; at++ {
				parent := append([]int{-1}, make([]int, many-1)...)
				parent[at] = n
				want, number := api.ErrScope, at
				if 0 <= n && n < at {
					want, number = api.OK, 0
				}
				checks(t, fmt.Sprint("parent of ", at), onScopes(parent, append([]int{0}, slices.Repeat([]int{1}, many-1)...)), want, number)
			}
		}
	}
}

func TestP9_1_Bounds(t *testing.T) {
	for _, n := range edgeNumbers {
		for many := 1; many <= 8; many++ {
			parent := append([]int{-1}, make([]int, many-1)...)
			for at := range many {
				bound := append([]int{0}, slices.Repeat([]int{64}, many-1)...)
				bound[at] = n
				if at == 0 && n == 0 || at > 0 && 1 <= n && n <= 64 {
					checks(t, fmt.Sprint("bound of ", at), onScopes(parent, bound), api.OK, 0)
				} else {
					checks(t, fmt.Sprint("bound of ", at), onScopes(parent, bound), api.ErrScope, at)
				}
			}
		}
	}
}

func TestP9_1_Depths(t *testing.T) {
	for _, c := range []struct {
		parent []int
		at     int // 0: all may be
	}{
		{[]int{-1, 0, 1, 2}, 0},
		{[]int{-1, 0, 1, 2, 2, 2, 2, 2}, 0},
		{[]int{-1, 0, 0, 1, 2, 3, 4}, 0},
		{[]int{-1, 0, 1, 2, 3}, 4},
		{[]int{-1, 0, 0, 0, 3, 4, 5}, 6},
		{[]int{-1, 0, 1, 0, 2, 3, 4}, 6},
		{[]int{-1, 0, 1, 2, 0, 1, 2, 6}, 7},
		{[]int{-1, 0, 1, 2, 3, 4, 5, 6}, 4},
		{[]int{-1, 0, 1, 2, 2, 2, 3, 2}, 6},
	} {
		g := onScopes(c.parent, append([]int{0}, slices.Repeat([]int{1}, len(c.parent)-1)...))
		if c.at == 0 {
			checks(t, "depth", g, api.OK, 0)
		} else {
			checks(t, "depth", g, api.ErrScope, c.at)
		}
	}
}

// All ways in which up to six scopes lie in one another.
func TestP9_1_AllTreesOfScopes(t *testing.T) {
	var try func(parent []int)
	try = func(parent []int) {
		asSlow(t, "tree", onScopes(parent, append([]int{0}, slices.Repeat([]int{64}, len(parent)-1)...)))
		if len(parent) < 6 {
			for n := -2; n <= len(parent)+1; n++ {
				try(append(slices.Clone(parent), n))
			}
		}
	}
	try([]int{-1})
}

func TestP9_1_WhichScopeFirst(t *testing.T) {
	for name, c := range map[string]struct {
		parent, bound []int
		at            int
	}{
		"both of the first":               {[]int{0}, []int{1}, 0},
		"the first, and another":          {[]int{-1, 0}, []int{1, 0}, 0},
		"too few bounds, and a parent":    {[]int{-1, 1}, []int{0}, 0},
		"too many bounds, and a bound":    {[]int{-1, 0, 0}, []int{0, 0, 1, 1}, 0},
		"too many, and a parent":          {[]int{-1, 0, 0, 3, 0, 0, 0, 0, 0}, []int{0, 1, 1, 1, 1, 1, 1, 1, 1}, 0},
		"a bound ahead of a parent":       {[]int{-1, 0, 0, 3}, []int{0, 1, 65, 1}, 2},
		"a parent ahead of a bound":       {[]int{-1, 0, 2, 0}, []int{0, 1, 1, 65}, 2},
		"a bound ahead of a depth":        {[]int{-1, 0, 1, 2, 3}, []int{0, 1, 1, 0, 1}, 3},
		"a depth ahead of a bound":        {[]int{-1, 0, 1, 2, 3, 0}, []int{0, 1, 1, 1, 1, 0}, 4},
		"a depth ahead of a parent":       {[]int{-1, 0, 1, 2, 3, 5}, []int{0, 1, 1, 1, 1, 1}, 4},
		"a parent ahead of a depth":       {[]int{-1, -1, 1, 2, 3, 4}, []int{0, 1, 1, 1, 1, 1}, 1},
		"two that are one another's":      {[]int{-1, 2, 1}, []int{0, 1, 1}, 1},
		"a parent that isn't there":       {[]int{-1, 0, 9}, []int{0, 1, 1}, 2},
		"the last two":                    {[]int{-1, 0, 0, 0, 0, 0, 6, 7}, []int{0, 1, 1, 1, 1, 1, 1, 1}, 6},
		"the last one":                    {[]int{-1, 0, 0, 0, 0, 0, 0, 7}, []int{0, 1, 1, 1, 1, 1, 1, 1}, 7},
		"its own parent, ahead of others": {[]int{-1, 1, 1}, []int{0, 1, 1}, 1},
	} {
		checks(t, name, onScopes(c.parent, c.bound), api.ErrScope, c.at)
	}
}
