package paths_test

import (
	"math"
	"slices"
	"testing"

	"backwash/api"
	"backwash/paths"
)

// rightHop, by chapter 2's words.
func rightHop(h api.Hop) bool {
	in := func(n, least, top int) bool { return n >= least && n <= top }
	ok := in(h.From, 1, 4) && in(h.Keep, 0, h.From) && in(h.Tail, 0, 4) && in(h.Keep+h.Tail, 1, 4)
	for i := range 4 {
		ok = ok && in(h.Add[i], 0, topEpoch) && in(h.T[i], 0, topEpoch) && (i < h.Keep || h.Add[i] == 0) && (i < h.Tail || h.T[i] == 0)
	}
	return ok
}

// traceOf a right step.
func traceOf(h api.Hop) trace {
	x := trace{from: h.From, many: h.Keep + h.Tail}
	for i := range x.many {
		if i < h.Keep {
			x.places[i] = place{true, h.Add[i]}
		} else {
			x.places[i] = place{false, h.T[i-h.Keep]}
		}
	}
	return x
}

// slowLeast are the lowest steps of a list, by the chapter's words.
func slowLeast(l []api.Hop) []api.Hop {
	var low []api.Hop
	for i, h := range l {
		least := rightHop(h)
		for j, x := range l {
			if i == j || !rightHop(h) || !rightHop(x) {
				continue
			}
			there, back := traceOf(x).atOrBefore(traceOf(h)), traceOf(h).atOrBefore(traceOf(x))
			if there && (!back || j < i) {
				least = false
			}
		}
		if least {
			low = append(low, h)
		}
	}
	return low
}

// leastAsSlow holds Least of a list against the slow answer.
func leastAsSlow(t *testing.T, l []api.Hop) {
	t.Helper()
	if got, want := paths.Least(l), slowLeast(l); !slices.Equal(got, want) {
		t.Fatalf("Least(%v) = %v, not %v", l, got, want)
	}
}

// wrongHops are steps that are not right.
func wrongHops() []api.Hop {
	return []api.Hop{
		{}, {From: 1}, {From: 0, Tail: 1}, {From: -1, Tail: 1}, {From: 5, Keep: 1}, {From: math.MaxInt, Tail: 1}, {From: math.MinInt, Tail: 1},
		{From: 1, Keep: 2}, {From: 2, Keep: -1, Tail: 2}, {From: 2, Keep: 2, Tail: 3}, {From: 2, Keep: 1, Tail: -1}, {From: 4, Keep: 4, Tail: 1}, {From: 1, Tail: 5}, {From: 1, Keep: math.MinInt, Tail: math.MinInt},
		step(1, l(-1), nil), step(1, l(topEpoch+1), nil), step(1, nil, l(-1)), step(1, nil, l(topEpoch+1)), step(2, l(0, math.MaxInt), nil), step(2, l(0, math.MinInt), nil),
		{From: 1, Keep: 1, Add: [4]int{0, 1}}, {From: 1, Keep: 1, T: [4]int{1}}, {From: 2, Keep: 1, Tail: 1, T: [4]int{0, 1}}, {From: 2, Keep: 1, Add: [4]int{0, 0, 0, -1}},
	}
}

func TestP10_1_LeastByHand(t *testing.T) {
	same, next := step(2, l(0, 0), nil), step(2, l(0, 1), nil)
	fresh, out, in := step(2, l(1), l(0)), step(2, l(0), nil), step(2, l(0, 0), l(0))
	for _, c := range []struct{ l, want []api.Hop }{
		{nil, nil},
		{[]api.Hop{}, nil},
		{[]api.Hop{same}, []api.Hop{same}},
		{[]api.Hop{{}}, nil},
		{[]api.Hop{{}, same, {From: 9}}, []api.Hop{same}},
		{[]api.Hop{same, same}, []api.Hop{same}},
		{[]api.Hop{same, next}, []api.Hop{same}},
		{[]api.Hop{next, same}, []api.Hop{same}},
		{[]api.Hop{same, fresh}, []api.Hop{same, fresh}},
		{[]api.Hop{fresh, same}, []api.Hop{fresh, same}},
		{[]api.Hop{fresh, same, fresh}, []api.Hop{fresh, same}},
		{[]api.Hop{same, fresh, same}, []api.Hop{same, fresh}},
		{[]api.Hop{next, fresh, same, next}, []api.Hop{fresh, same}},
		{[]api.Hop{in, out, same}, []api.Hop{in, out, same}},
		{[]api.Hop{out, same, in, out, in}, []api.Hop{out, same, in}},
		{[]api.Hop{step(1, l(0), nil), step(2, l(0), nil), step(3, l(0), nil), step(4, l(0), nil)}, []api.Hop{step(1, l(0), nil), step(2, l(0), nil), step(3, l(0), nil), step(4, l(0), nil)}},
		{[]api.Hop{step(4, l(0), nil), step(4, l(0, 0), nil), step(4, l(0, 0, 0), nil), step(4, l(0, 0, 0, 0), nil)}, []api.Hop{step(4, l(0), nil), step(4, l(0, 0), nil), step(4, l(0, 0, 0), nil), step(4, l(0, 0, 0, 0), nil)}},
		{[]api.Hop{step(2, l(0, 1), nil), step(2, l(1, 0), nil), step(2, l(0, 0), nil)}, []api.Hop{step(2, l(0, 0), nil)}},
		{[]api.Hop{step(2, l(0, 2), nil), step(2, l(1, 1), nil), step(2, l(2, 0), nil), step(2, l(2, 1), nil)}, []api.Hop{step(2, l(0, 2), nil), step(2, l(1, 1), nil), step(2, l(2, 0), nil)}},
		{[]api.Hop{step(1, l(3), nil), step(1, nil, l(3)), step(1, nil, l(4))}, []api.Hop{step(1, nil, l(3))}},
		{[]api.Hop{step(1, l(3), nil), step(1, nil, l(4))}, []api.Hop{step(1, l(3), nil), step(1, nil, l(4))}},
		{[]api.Hop{step(1, l(topEpoch), nil), step(1, l(topEpoch+1), nil), step(1, l(topEpoch-1), nil)}, []api.Hop{step(1, l(topEpoch-1), nil)}},
	} {
		if got := paths.Least(c.l); !slices.Equal(got, c.want) {
			t.Errorf("Least(%v) = %v, not %v", c.l, got, c.want)
		}
		leastAsSlow(t, c.l)
	}
}

func TestP10_1_LeastOfAllShortLists(t *testing.T) {
	some := []api.Hop{
		step(1, l(0), nil), step(1, l(1), nil), step(1, nil, l(0)), step(1, nil, l(1)), step(1, l(0), l(0)), step(2, l(0, 0), nil), step(2, l(0), l(0)), step(2, l(1), l(0)), step(2, l(0, 1), nil), step(2, l(0), nil),
		{From: 1, Keep: 1, T: [4]int{1}}, {},
	}
	lists := [][]api.Hop{nil}
	for range 4 {
		var longer [][]api.Hop
		for _, x := range lists {
			leastAsSlow(t, x)
			for _, h := range some {
				longer = append(longer, append(slices.Clone(x), h))
			}
		}
		lists = longer
	}
	for _, x := range lists {
		leastAsSlow(t, x)
	}
}

// hop is some step of small numbers, of so many places from so many coordinates.
func (c *chance) hop(from, many, top int) api.Hop {
	keep := c.below(min(from, many) + 1)
	h := api.Hop{From: from, Keep: keep, Tail: many - keep}
	for i := range keep {
		h.Add[i] = c.below(top)
	}
	for i := range many - keep {
		h.T[i] = c.below(top)
	}
	return h
}

func TestP10_1_LeastOfLongLists(t *testing.T) {
	c := chance(1)
	wrong := wrongHops()
	several := 0
	for round := range 600 {
		var x []api.Hop
		from, many := 1+c.below(4), 1+c.below(4)
		for range c.below(60) {
			switch luck := c.below(20); {
			case luck == 0:
				x = append(x, wrong[c.below(len(wrong))])
			case luck == 1:
				x = append(x, c.hop(1+c.below(4), 1+c.below(4), 3))
			case luck == 2 && len(x) > 0:
				x = append(x, x[c.below(len(x))])
			default:
				x = append(x, c.hop(from, many, 2+round%9))
			}
		}
		leastAsSlow(t, x)
		if len(paths.Least(x)) > 5 {
			several++
		}
	}
	if several < 100 {
		t.Error(several)
	}
}

func TestP10_1_LeastLeavesOutWhatIsNotRight(t *testing.T) {
	right := []api.Hop{step(1, l(0), nil), step(2, l(0, 5), nil), step(4, nil, l(0, 1))}
	for _, w := range wrongHops() {
		if rightHop(w) {
			t.Fatal(w)
		}
		if got := paths.Least([]api.Hop{w}); len(got) != 0 {
			t.Errorf("Least of %v = %v", w, got)
		}
		for i := range 4 {
			if got := paths.Least(slices.Insert(slices.Clone(right), i, w)); !slices.Equal(got, right) {
				t.Errorf("with %v at %d: %v", w, i, got)
			}
		}
	}
}

// What is the lowest of a list is the lowest of itself, and of the list the other way around, but for the order.
func TestP10_1_LeastOfLeast(t *testing.T) {
	c := chance(2)
	for range 300 {
		var x []api.Hop
		for range c.below(30) {
			x = append(x, c.hop(3, 3, 5))
		}
		low := paths.Least(x)
		if got := paths.Least(low); !slices.Equal(got, low) {
			t.Fatalf("Least(%v) = %v", low, got)
		}
		slices.Reverse(x)
		if got := paths.Least(x); !slices.Equal(sorted(got), sorted(low)) {
			t.Fatalf("Least(%v) = %v, not %v", x, got, low)
		}
	}
}

// A long list whose steps get lower all the time, and one of which none is at or before another one.
func TestP10_1_LeastOfManySteps(t *testing.T) {
	var down, level []api.Hop
	for i := range 2000 {
		down = append(down, step(1, l(topEpoch-i), nil))
		level = append(level, step(2, l(i, topEpoch-i), nil))
	}
	if got := paths.Least(down); !slices.Equal(got, down[1999:]) {
		t.Error(len(got))
	}
	if got := paths.Least(level); !slices.Equal(got, level) {
		t.Error(len(got))
	}
}
