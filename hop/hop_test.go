package hop_test

import (
	"math"
	"testing"

	"backwash/api"
	"backwash/hop"
	"backwash/ts"
)

const (
	topEpoch = 1 << 20
	topCount = 64
)

// of makes the timestamp of these coordinates, be it right or not.
func of(c ...int) api.Time {
	t := api.Time{D: len(c)}
	copy(t.C[:], c)
	return t
}

// step makes the step of these Adds and Ts, be it right or not.
func step(from int, add, t []int) api.Hop {
	h := api.Hop{From: from, Keep: len(add), Tail: len(t)}
	copy(h.Add[:], add)
	copy(h.T[:], t)
	return h
}

// l is a list of numbers.
func l(n ...int) []int { return n }

// lists holds all lists of n of the numbers.
func lists(n int, numbers ...int) [][]int {
	all := [][]int{{}}
	for range n {
		var next [][]int
		for _, x := range all {
			for _, y := range numbers {
				next = append(next, append(append([]int{}, x...), y))
			}
		}
		all = next
	}
	return all
}

// steps holds the right steps of each From, Keep and Tail, their Adds and Ts of the numbers.
func steps(numbers ...int) []api.Hop {
	var all []api.Hop
	for from := 1; from <= 4; from++ {
		for keep := 0; keep <= from; keep++ {
			for tail := 0; keep+tail <= 4; tail++ {
				if keep+tail == 0 {
					continue
				}
				for _, x := range lists(keep+tail, numbers...) {
					all = append(all, step(from, x[:keep], x[keep:]))
				}
			}
		}
	}
	return all
}

// times holds right timestamps of each depth, with each coordinate at its edges and between.
func times() []api.Time {
	var all []api.Time
	for _, first := range []int{0, 1, 65, topEpoch - 1, topEpoch} {
		all = append(all, of(first))
		for d := 1; d <= 3; d++ {
			numbers := []int{0, 1, topCount - 1, topCount}
			if d == 3 {
				numbers = []int{0, 63, topCount}
			}
			for _, x := range lists(d, numbers...) {
				all = append(all, of(append([]int{first}, x...)...))
			}
		}
	}
	return all
}

// wrongTimes holds timestamps that are not right.
func wrongTimes() []api.Time {
	all := []api.Time{{}, {D: -1}, {D: 5}, {D: math.MinInt}, {D: math.MaxInt}, {D: 5, C: [4]int{1, 1, 1, 1}}}
	for d := 1; d <= 4; d++ {
		for i := range 4 {
			faults := []int{-1, 1, topCount, math.MinInt, math.MaxInt}
			if i == 0 {
				faults = []int{-1, topEpoch + 1, math.MinInt, math.MaxInt}
			} else if i < d {
				faults = []int{-1, topCount + 1, math.MinInt, math.MaxInt}
			}
			for _, n := range faults {
				x := api.Time{D: d}
				x.C[i] = n
				all = append(all, x)
			}
		}
	}
	return all
}

// wrongShapes holds steps of which From, Keep, Tail or Keep and Tail together are none.
func wrongShapes() []api.Hop {
	all := []api.Hop{{}}
	for _, n := range []int{math.MinInt, -5, -4, -1, 0, 5, 6, math.MaxInt} {
		all = append(all, api.Hop{From: n, Tail: 1}, api.Hop{From: n, Keep: 1}, api.Hop{From: n, Keep: n, Tail: 1}, api.Hop{From: n, Keep: n, Tail: 2})
		if n != 0 {
			all = append(all, api.Hop{From: 4, Keep: n}, api.Hop{From: 4, Keep: n, Tail: 1}, api.Hop{From: 4, Keep: n, Tail: 4},
				api.Hop{From: 4, Tail: n}, api.Hop{From: 4, Keep: 1, Tail: n}, api.Hop{From: 4, Keep: 4, Tail: n},
				api.Hop{From: 4, Keep: n, Tail: n}, api.Hop{From: n, Keep: n, Tail: n})
		}
	}
	for from := 1; from <= 4; from++ {
		all = append(all, api.Hop{From: from}, api.Hop{From: from, Keep: from + 1}, api.Hop{From: from, Keep: from, Tail: 5 - from},
			api.Hop{From: from, Keep: -1, Tail: 2}, api.Hop{From: from, Keep: 1, Tail: -1}, api.Hop{From: from, Keep: from, Tail: 4},
			api.Hop{From: from, Keep: from, Tail: -from}, api.Hop{From: from, Tail: 5},
			api.Hop{From: from, Keep: math.MinInt, Tail: math.MinInt}, api.Hop{From: from, Keep: math.MaxInt, Tail: math.MinInt + 2})
	}
	return append(all, api.Hop{From: 4, Keep: -1, Tail: 4}, api.Hop{From: 4, Keep: -4, Tail: 8}, api.Hop{From: 5, Keep: 4}, api.Hop{From: 5, Keep: 5},
		api.Hop{From: 4, Keep: 5, Tail: -1}, api.Hop{From: 4, Keep: 5}, api.Hop{From: 0, Tail: 1}, api.Hop{From: -1, Tail: 1})
}

// wrongNumbers holds steps of which one Add or one T is none.
func wrongNumbers() []api.Hop {
	var all []api.Hop
	fault := func(h api.Hop, i, below int, set func(h *api.Hop, i, n int)) {
		faults := []int{math.MinInt, -topEpoch, -1, topEpoch + 1, math.MaxInt}
		if i >= below {
			faults = []int{math.MinInt, -1, 1, topEpoch, math.MaxInt}
		}
		for _, n := range faults {
			x := h
			set(&x, i, n)
			all = append(all, x)
		}
	}
	for _, h := range append(steps(0), steps(1)...) {
		for i := range 4 {
			fault(h, i, h.Keep, func(x *api.Hop, i, n int) { x.Add[i] = n })
			fault(h, i, h.Tail, func(x *api.Hop, i, n int) { x.T[i] = n })
		}
	}
	return all
}

// wrong holds steps that are not right.
func wrong() []api.Hop {
	return append(wrongShapes(), wrongNumbers()...)
}

// some holds few right steps, of each From and of each number of coordinates that come.
func some() []api.Hop {
	var all []api.Hop
	for from := 1; from <= 4; from++ {
		for keep := 0; keep <= from; keep++ {
			for tail := 0; keep+tail <= 4; tail++ {
				if keep+tail > 0 {
					all = append(all, step(from, make([]int, keep), make([]int, tail)))
				}
			}
		}
	}
	return append(all, step(1, l(topEpoch), nil), step(2, l(topEpoch, topEpoch), l(topEpoch, topEpoch)), step(4, nil, l(1, 2, 3, 4)))
}

// wrongPairs calls f with all pairs of which one is not right, or both, the same one twice among them.
func wrongPairs(f func(a, b api.Hop)) {
	for _, w := range wrong() {
		f(w, w)
		for _, r := range some() {
			f(w, r)
			f(r, w)
		}
		for _, v := range wrongShapes() {
			f(w, v)
			f(v, w)
		}
	}
}

func TestP2_1_Right(t *testing.T) {
	for _, h := range steps(0, 1, topEpoch) {
		if !hop.Right(h) {
			t.Errorf("Right(%v) = false", h)
		}
	}
	for _, h := range wrong() {
		if hop.Right(h) {
			t.Errorf("Right(%v) = true", h)
		}
	}
}

func TestP2_1_RightByEachPart(t *testing.T) {
	for _, c := range []struct {
		h    api.Hop
		want bool
	}{
		{api.Hop{}, false}, {api.Hop{From: 1}, false}, {api.Hop{From: 4}, false},
		{api.Hop{From: 1, Keep: 1}, true}, {api.Hop{From: 1, Tail: 1}, true}, {api.Hop{From: 0, Tail: 1}, false}, {api.Hop{From: -1, Tail: 1}, false},
		{api.Hop{From: 4, Keep: 4}, true}, {api.Hop{From: 4, Keep: 1}, true}, {api.Hop{From: 5, Keep: 4}, false}, {api.Hop{From: 5, Keep: 1}, false},
		{api.Hop{From: 2, Keep: 2}, true}, {api.Hop{From: 2, Keep: 3}, false}, {api.Hop{From: 3, Keep: 4}, false}, {api.Hop{From: 4, Keep: 5}, false},
		{api.Hop{From: 2, Keep: -1, Tail: 2}, false}, {api.Hop{From: 2, Keep: 2, Tail: -1}, false},
		{api.Hop{From: 1, Tail: 4}, true}, {api.Hop{From: 1, Tail: 5}, false}, {api.Hop{From: 1, Keep: 1, Tail: 3}, true}, {api.Hop{From: 1, Keep: 1, Tail: 4}, false},
		{api.Hop{From: 3, Keep: 3, Tail: 1}, true}, {api.Hop{From: 3, Keep: 3, Tail: 2}, false}, {api.Hop{From: 4, Keep: 4, Tail: 1}, false},
		{step(1, l(topEpoch), nil), true}, {step(1, l(topEpoch+1), nil), false}, {step(1, l(-1), nil), false},
		{step(1, nil, l(topEpoch)), true}, {step(1, nil, l(topEpoch+1)), false}, {step(1, nil, l(-1)), false},
		{step(3, l(0, 0, topEpoch), l(topEpoch)), true}, {step(3, l(0, 0, topEpoch+1), l(0)), false}, {step(3, l(0, 0, 0), l(topEpoch+1)), false},
		{step(3, l(0, 0, 65), l(65)), true}, {step(4, nil, l(0, 65, topEpoch, topEpoch)), true}, {step(4, nil, l(0, 0, 0, topEpoch+1)), false},
		{step(4, l(0, 0, 0, topEpoch), nil), true}, {step(4, l(0, 0, 0, -1), nil), false}, {step(4, nil, l(0, 0, 0, -1)), false},
		{api.Hop{From: 2, Keep: 1, Add: [4]int{3, 1}}, false}, {api.Hop{From: 2, Keep: 1, Add: [4]int{3, 0, 0, 1}}, false}, {api.Hop{From: 2, Keep: 1, Add: [4]int{3, -1}}, false},
		{api.Hop{From: 2, Keep: 1, T: [4]int{1}}, false}, {api.Hop{From: 2, Keep: 1, Tail: 1, T: [4]int{1, 1}}, false}, {api.Hop{From: 2, Keep: 1, Tail: 1, T: [4]int{1, 0, 0, -1}}, false},
		{api.Hop{From: 2, Tail: 1, Add: [4]int{1}}, false}, {api.Hop{From: 2, Tail: 1, Add: [4]int{0, 0, 0, 1}}, false},
	} {
		if got := hop.Right(c.h); got != c.want {
			t.Errorf("Right(%v) = %v", c.h, got)
		}
	}
}

func TestP2_1_Apply(t *testing.T) {
	for _, c := range []struct {
		h       api.Hop
		x, want api.Time
	}{
		{step(1, l(0), nil), of(5), of(5)}, {step(1, l(3), nil), of(5), of(8)}, {step(1, nil, l(3)), of(5), of(3)},
		{step(1, l(0), l(1)), of(5), of(5, 1)}, {step(1, l(2), l(0, 64, 7)), of(5), of(7, 0, 64, 7)},
		{step(2, l(0), nil), of(5, 9), of(5)}, {step(2, l(1), l(4)), of(5, 9), of(6, 4)}, {step(2, l(1, 2), nil), of(5, 9), of(6, 11)},
		{step(3, nil, l(1, 2, 3, 4)), of(5, 6, 7), of(1, 2, 3, 4)}, {step(3, l(0, 1), nil), of(5, 6, 7), of(5, 7)},
		{step(4, l(1, 2, 3, 4), nil), of(10, 20, 30, 40), of(11, 22, 33, 44)}, {step(4, l(1), nil), of(10, 20, 30, 40), of(11)}, {step(4, l(1, 2), l(9)), of(10, 20, 30, 40), of(11, 22, 9)},
		{step(1, l(topEpoch), nil), of(0), of(topEpoch)}, {step(1, l(1), nil), of(topEpoch - 1), of(topEpoch)}, {step(1, nil, l(topEpoch)), of(topEpoch), of(topEpoch)},
		{step(2, l(0, 1), nil), of(1, 63), of(1, 64)}, {step(2, l(0, 64), nil), of(1, 0), of(1, 64)}, {step(2, l(0), l(64)), of(1, 64), of(1, 64)},
		{step(4, l(0, 0, 0, 64), nil), of(topEpoch, 64, 64, 0), of(topEpoch, 64, 64, 64)},
	} {
		if got, ok := hop.Apply(c.h, c.x); !ok || got != c.want {
			t.Errorf("Apply(%v, %v) = %v, %v", c.h, c.x, got, ok)
		}
	}
}

func TestP2_1_ApplyWhereNothingComes(t *testing.T) {
	for _, c := range []struct {
		h api.Hop
		x api.Time
	}{
		{step(1, l(1), nil), of(topEpoch)}, {step(1, l(topEpoch), nil), of(1)}, {step(1, l(topEpoch), nil), of(topEpoch)}, {step(2, l(1), nil), of(topEpoch, 0)},
		{step(2, l(0, 1), nil), of(1, 64)}, {step(2, l(0, 65), nil), of(1, 0)}, {step(2, l(0, topEpoch), nil), of(1, 0)},
		{step(4, l(0, 0, 0, 1), nil), of(1, 0, 0, 64)}, {step(4, l(0, 0, 1, 0), nil), of(1, 0, 64, 0)},
		{step(1, l(0), l(65)), of(1)}, {step(1, nil, l(0, 65)), of(1)}, {step(1, l(0), l(0, 0, topEpoch)), of(1)},
		{step(1, l(0), nil), of(1, 0)}, {step(2, l(0), nil), of(1)}, {step(2, l(0, 0), nil), of(1, 0, 0)}, {step(4, nil, l(0)), of(1, 0, 0)},
		{step(3, nil, l(0)), of(1, 0, 0, 0)}, {step(1, nil, l(0)), api.Time{}}, {step(1, l(0), nil), of(-1)}, {step(1, l(1), nil), of(-1)},
	} {
		if got, ok := hop.Apply(c.h, c.x); ok || got != (api.Time{}) {
			t.Errorf("Apply(%v, %v) = %v, %v", c.h, c.x, got, ok)
		}
	}
}

// slowApply does a right step at a right timestamp, as lists.
func slowApply(h api.Hop, x api.Time) (api.Time, bool) {
	if x.D != h.From {
		return api.Time{}, false
	}
	var c []int
	for i, n := range x.C[:h.Keep] {
		c = append(c, n+h.Add[i])
	}
	c = append(c, h.T[:h.Tail]...)
	for i, n := range c {
		if n > topEpoch || i > 0 && n > topCount {
			return api.Time{}, false
		}
	}
	return of(c...), true
}

func TestP2_1_ApplyOfAll(t *testing.T) {
	all := times()
	for _, h := range steps(0, 1, topCount+1) {
		for _, x := range all {
			want, can := slowApply(h, x)
			if got, ok := hop.Apply(h, x); ok != can || got != want {
				t.Fatalf("Apply(%v, %v) = %v, %v", h, x, got, ok)
			}
		}
	}
}

func TestP2_1_ApplyOfWrongOnes(t *testing.T) {
	nothing := func(h api.Hop, x api.Time) {
		if got, ok := hop.Apply(h, x); ok || got != (api.Time{}) {
			t.Errorf("Apply(%v, %v) = %v, %v", h, x, got, ok)
		}
	}
	bad := wrongTimes()
	for _, h := range wrong() {
		for _, x := range []api.Time{of(0), of(1, 0), of(1, 2, 3), of(topEpoch, 64, 64, 64), of(3, 0, 0, 0)} {
			nothing(h, x)
		}
		nothing(h, bad[0])
	}
	for _, h := range append(wrongShapes(), steps(0, 1)...) {
		for _, x := range bad {
			nothing(h, x)
		}
	}
}

func TestP2_1_Le(t *testing.T) {
	for _, c := range []struct {
		a, b     api.Hop
		le, back bool
	}{
		{step(1, l(0), nil), step(1, l(0), nil), true, true}, {step(1, l(0), nil), step(1, l(1), nil), true, false}, {step(1, l(0), nil), step(1, l(topEpoch), nil), true, false},
		{step(1, nil, l(0)), step(1, nil, l(0)), true, true}, {step(1, nil, l(0)), step(1, nil, l(1)), true, false}, {step(1, nil, l(3)), step(1, nil, l(topEpoch)), true, false},
		{step(1, nil, l(0)), step(1, l(0), nil), true, false}, {step(1, nil, l(5)), step(1, l(5), nil), true, false}, {step(1, nil, l(4)), step(1, l(5), nil), true, false},
		{step(1, nil, l(6)), step(1, l(5), nil), false, false}, {step(1, nil, l(topEpoch)), step(1, l(topEpoch), nil), true, false}, {step(1, nil, l(1)), step(1, l(0), nil), false, false},
		{step(2, l(0), l(0)), step(2, l(0, 0), nil), true, false}, {step(2, l(0), l(3)), step(2, l(0, 3), nil), true, false}, {step(2, l(0), l(4)), step(2, l(0, 3), nil), false, false},
		{step(2, l(1), l(0)), step(2, l(0, 0), nil), false, false}, {step(2, nil, l(0, 0)), step(2, l(0, 0), nil), true, false}, {step(2, nil, l(0, 1)), step(2, l(0, 0), nil), false, false},
		{step(2, nil, l(2, 1)), step(2, l(2), l(1)), true, false}, {step(2, nil, l(2, 2)), step(2, l(2), l(1)), false, false}, {step(2, nil, l(3, 1)), step(2, l(2), l(1)), false, false},
		{step(2, l(1, 0), nil), step(2, l(0, 1), nil), false, false}, {step(2, l(1, 0), nil), step(2, l(1, 1), nil), true, false},
		{step(1, l(0), l(0, 1)), step(1, l(0), l(1, 0)), false, false}, {step(1, l(0), l(0, 1)), step(1, l(0), l(0, 2)), true, false},
		{step(4, l(0, 0, 0, 0), nil), step(4, l(0, 0, 0, 1), nil), true, false}, {step(4, l(0, 0, 0), l(7)), step(4, l(0, 0, 0, 7), nil), true, false},
		{step(1, l(0), nil), step(2, l(0), nil), false, false}, {step(2, l(0), nil), step(2, l(0, 0), nil), false, false}, {step(1, l(0), nil), step(1, l(0), l(0)), false, false},
		{step(3, l(0), l(0)), step(2, l(0), l(0)), false, false}, {step(1, nil, l(0)), step(1, nil, l(0, 0)), false, false}, {step(1, nil, l(0)), step(4, nil, l(0)), false, false},
	} {
		if got := hop.Le(c.a, c.b); got != c.le {
			t.Errorf("Le(%v, %v) = %v", c.a, c.b, got)
		}
		if got := hop.Le(c.b, c.a); got != c.back {
			t.Errorf("Le(%v, %v) = %v", c.b, c.a, got)
		}
	}
}

// place is what a step does at one place of what comes: the number of the coordinate that it keeps (-1: it is new), and what it brings.
type place struct {
	kept, n int
}

func places(h api.Hop) []place {
	var all []place
	for i, n := range h.Add[:h.Keep] {
		all = append(all, place{i, n})
	}
	for _, n := range h.T[:h.Tail] {
		all = append(all, place{-1, n})
	}
	return all
}

// slowLe says the order of right steps place by place, with each of the chapter's cases for itself.
func slowLe(a, b api.Hop) bool {
	x, y := places(a), places(b)
	if a.From != b.From || len(x) != len(y) {
		return false
	}
	for i := range x {
		switch first, other := x[i].kept >= 0, y[i].kept >= 0; {
		case first && other && x[i].n > y[i].n:
			return false
		case !first && other && x[i].n > y[i].n:
			return false
		case !first && !other && x[i].n > y[i].n:
			return false
		case first && !other:
			return false
		}
	}
	return true
}

func TestP2_1_LeOfAllPairs(t *testing.T) {
	all := append(steps(0, 1), steps(2, topEpoch)...)
	for _, a := range all {
		for _, b := range all {
			if got := hop.Le(a, b); got != slowLe(a, b) {
				t.Fatalf("Le(%v, %v) = %v", a, b, got)
			}
		}
	}
}

func TestP2_1_LeOfWrongOnes(t *testing.T) {
	wrongPairs(func(a, b api.Hop) {
		if hop.Le(a, b) {
			t.Errorf("Le(%v, %v) = true", a, b)
		}
	})
}

func TestP2_2_Then(t *testing.T) {
	for _, c := range []struct {
		a, b, want api.Hop
	}{
		{step(1, l(0), nil), step(1, l(0), nil), step(1, l(0), nil)}, {step(1, l(2), nil), step(1, l(3), nil), step(1, l(5), nil)},
		{step(1, l(0), l(0)), step(2, l(0, 1), nil), step(1, l(0), l(1))}, {step(1, l(0), l(1)), step(2, l(0), nil), step(1, l(0), nil)},
		{step(2, l(0), nil), step(1, l(0), l(0)), step(2, l(0), l(0))}, {step(2, l(0, 1), nil), step(2, l(0, 1), nil), step(2, l(0, 2), nil)},
		{step(1, l(4), nil), step(1, nil, l(7)), step(1, nil, l(7))}, {step(1, nil, l(7)), step(1, l(4), nil), step(1, nil, l(11))},
		{step(1, nil, l(7, 8)), step(2, l(1, 2), l(3)), step(1, nil, l(8, 10, 3))}, {step(3, l(1), l(2, 3)), step(3, l(10, 20), l(30)), step(3, l(11), l(22, 30))},
		{step(4, l(1, 2, 3, 4), nil), step(4, l(1, 2), nil), step(4, l(2, 4), nil)}, {step(4, l(1, 2), l(5)), step(3, l(1, 1, 1), l(9)), step(4, l(2, 3), l(6, 9))},
		{step(2, l(3), nil), step(1, nil, l(1, 2, 3, 4)), step(2, nil, l(1, 2, 3, 4))},
		{step(1, l(0), l(topEpoch)), step(2, l(0), nil), step(1, l(0), nil)}, {step(1, l(topEpoch), nil), step(1, nil, l(0)), step(1, nil, l(0))},
		{step(1, l(topEpoch-1), nil), step(1, l(1), nil), step(1, l(topEpoch), nil)}, {step(1, nil, l(1)), step(1, l(topEpoch-1), nil), step(1, nil, l(topEpoch))},
		{step(1, l(topEpoch), nil), step(1, l(0), nil), step(1, l(topEpoch), nil)}, {step(1, l(0), nil), step(1, l(topEpoch), nil), step(1, l(topEpoch), nil)},
		{step(2, l(0, 64), nil), step(2, l(0, 64), nil), step(2, l(0, 128), nil)}, {step(1, l(0), l(64)), step(2, l(0, 64), nil), step(1, l(0), l(128))},
	} {
		if got, ok := hop.Then(c.a, c.b); !ok || got != c.want {
			t.Errorf("Then(%v, %v) = %v, %v", c.a, c.b, got, ok)
		}
	}
}

// nothing asks that Then has no answer.
func nothing(t *testing.T, a, b api.Hop) {
	t.Helper()
	if got, ok := hop.Then(a, b); ok || got != (api.Hop{}) {
		t.Errorf("Then(%v, %v) = %v, %v", a, b, got, ok)
	}
}

func TestP2_2_ThenWhereThereIsNone(t *testing.T) {
	for _, c := range []struct {
		a, b api.Hop
	}{
		{step(1, l(0), l(0)), step(1, l(0), l(0))}, {step(1, l(0), nil), step(2, l(0), nil)}, {step(2, l(0), nil), step(2, l(0), nil)}, {step(4, l(0), l(0, 0)), step(4, l(0), nil)},
		{step(3, l(0, 0), nil), step(3, l(0, 0), nil)}, {step(1, nil, l(0, 0, 0, 0)), step(3, nil, l(0))},
		{step(1, l(1), nil), step(1, l(topEpoch), nil)}, {step(1, l(topEpoch), nil), step(1, l(1), nil)}, {step(1, l(topEpoch), nil), step(1, l(topEpoch), nil)},
		{step(1, nil, l(1)), step(1, l(topEpoch), nil)}, {step(1, nil, l(topEpoch)), step(1, l(1), nil)}, {step(1, nil, l(topEpoch)), step(1, l(topEpoch), nil)},
		{step(4, l(0, 0, 0, topEpoch), nil), step(4, l(0, 0, 0, 1), nil)}, {step(4, l(0, 0, 0), l(topEpoch)), step(4, l(0, 0, 0, 1), nil)},
	} {
		nothing(t, c.a, c.b)
	}
}

func TestP2_2_ThenOfWrongOnes(t *testing.T) {
	wrongPairs(func(a, b api.Hop) { nothing(t, a, b) })
}

// slowThen puts two right steps together place by place.
func slowThen(a, b api.Hop) (api.Hop, bool) {
	before := places(a)
	if len(before) != b.From {
		return api.Hop{}, false
	}
	var add, tail []int
	for _, p := range places(b) {
		if p.kept >= 0 {
			p = place{before[p.kept].kept, before[p.kept].n + p.n}
		}
		if p.n > topEpoch {
			return api.Hop{}, false
		}
		if p.kept >= 0 {
			add = append(add, p.n)
		} else {
			tail = append(tail, p.n)
		}
	}
	return step(a.From, add, tail), true
}

func TestP2_2_ThenOfAllPairs(t *testing.T) {
	all := append(steps(0, 2), steps(1, topEpoch)...)
	for _, a := range all {
		for _, b := range all {
			want, can := slowThen(a, b)
			if got, ok := hop.Then(a, b); ok != can || got != want || ok && !hop.Right(got) {
				t.Fatalf("Then(%v, %v) = %v, %v", a, b, got, ok)
			}
		}
	}
}

// named are the four calls that make a step of a number of coordinates.
func named() map[string]func(int) (api.Hop, bool) {
	return map[string]func(int) (api.Hop, bool){"Same": hop.Same, "Enter": hop.Enter, "Leave": hop.Leave, "Next": hop.Next}
}

func TestP2_2_Named(t *testing.T) {
	for _, c := range []struct {
		name string
		d    int
		want api.Hop
	}{
		{"Same", 1, step(1, l(0), nil)}, {"Same", 2, step(2, l(0, 0), nil)}, {"Same", 3, step(3, l(0, 0, 0), nil)}, {"Same", 4, step(4, l(0, 0, 0, 0), nil)},
		{"Enter", 1, step(1, l(0), l(0))}, {"Enter", 2, step(2, l(0, 0), l(0))}, {"Enter", 3, step(3, l(0, 0, 0), l(0))},
		{"Leave", 2, step(2, l(0), nil)}, {"Leave", 3, step(3, l(0, 0), nil)}, {"Leave", 4, step(4, l(0, 0, 0), nil)},
		{"Next", 1, step(1, l(1), nil)}, {"Next", 2, step(2, l(0, 1), nil)}, {"Next", 3, step(3, l(0, 0, 1), nil)}, {"Next", 4, step(4, l(0, 0, 0, 1), nil)},
	} {
		if got, ok := named()[c.name](c.d); !ok || got != c.want {
			t.Errorf("%s(%d) = %v, %v", c.name, c.d, got, ok)
		}
	}
}

func TestP2_2_NoSuchNamed(t *testing.T) {
	check := func(name string, d int) {
		if got, ok := named()[name](d); ok || got != (api.Hop{}) {
			t.Errorf("%s(%d) = %v, %v", name, d, got, ok)
		}
	}
	check("Enter", 4)
	check("Leave", 1)
	for name := range named() {
		for _, d := range []int{math.MinInt, math.MinInt + 1, -5, -4, -1, 0, 5, 6, 64, math.MaxInt - 1, math.MaxInt} {
			check(name, d)
		}
	}
}

// At any timestamp the named steps do what the calls of ts do.
func TestP2_2_NamedDoAsTs(t *testing.T) {
	moves := map[string]func(api.Time) (api.Time, bool){"Enter": ts.Enter, "Leave": ts.Leave, "Next": ts.Next,
		"Same": func(x api.Time) (api.Time, bool) { return x, true }}
	for _, x := range times() {
		for name, move := range moves {
			want, can := move(x)
			h, is := named()[name](x.D)
			got, ok := hop.Apply(h, x)
			if got != want || ok != can || can && !is {
				t.Errorf("%s(%d) is %v, %v; at %v: %v, %v", name, x.D, h, is, x, got, ok)
			}
		}
	}
}

func TestP2_3_ThenIsOneBehindTheOther(t *testing.T) {
	at := map[int][]api.Time{}
	for _, x := range times() {
		if x.C[0] > 0 && x.C[0] != 65 {
			at[x.D] = append(at[x.D], x)
		}
	}
	met := 0
	all := steps(0, 1)
	for _, a := range all {
		for _, b := range all {
			both, ok := hop.Then(a, b)
			if !ok {
				continue
			}
			for _, x := range at[a.From] {
				middle, _ := hop.Apply(a, x)
				want, can := hop.Apply(b, middle)
				got, too := hop.Apply(both, x)
				if can && (!too || got != want) {
					t.Fatalf("%v then %v at %v: %v, %v, not %v", a, b, x, got, too, want)
				}
				if can {
					met++
				}
			}
		}
	}
	if met == 0 {
		t.Error("no step was done behind another one")
	}
}

func TestP2_3_ExampleOfThen(t *testing.T) {
	in, _ := hop.Enter(1)
	next, _ := hop.Next(2)
	out, _ := hop.Leave(2)
	same, _ := hop.Same(1)
	a, ok := hop.Then(in, next)
	if x, is := hop.Apply(a, of(5)); !ok || !is || x != of(5, 1) {
		t.Errorf("Enter, Next at 5: %v, %v", x, is)
	}
	b, ok := hop.Then(in, out)
	if !ok || !hop.Le(same, b) || !hop.Le(b, same) {
		t.Errorf("Enter, Leave: %v, %v", b, ok)
	}
	// Next can't be done where the loop's counter is at its greatest, but what comes of it and of Leave has no counter.
	c, ok := hop.Then(next, out)
	if x, is := hop.Apply(c, of(7, 64)); !ok || !is || x != of(7) {
		t.Errorf("Next, Leave at 7.64: %v, %v", x, is)
	}
}

func TestP2_3_LeHoldsAtEachTime(t *testing.T) {
	at := map[int][]api.Time{}
	for _, x := range times() {
		if x.C[0] < 2 {
			at[x.D] = append(at[x.D], x)
		}
	}
	met := 0
	all := append(steps(0, 1), steps(2)...)
	for _, a := range all {
		for _, b := range all {
			if !hop.Le(a, b) {
				continue
			}
			for _, x := range at[a.From] {
				less, ok := hop.Apply(a, x)
				more, is := hop.Apply(b, x)
				if ok && is && !ts.Le(less, more) {
					t.Fatalf("Le(%v, %v), but at %v: %v, %v", a, b, x, less, more)
				}
				if ok && is && less != more {
					met++
				}
			}
		}
	}
	if met == 0 {
		t.Error("no step was before another one")
	}
}
