package front_test

import (
	"math"
	"slices"
	"testing"

	"backwash/api"
	"backwash/chain"
	"backwash/front"
	"backwash/ts"
)

const (
	topEpoch = 1 << 20
	topCount = 64
	top      = 1 << 31
)

// of makes the timestamp of these coordinates, be it right or not.
func of(c ...int) api.Time {
	t := api.Time{D: len(c)}
	copy(t.C[:], c)
	return t
}

// n is a timestamp of these coordinates, so many times.
func n(many int, c ...int) api.Count { return api.Count{Time: of(c...), N: many} }

// l is a list of counts.
func l(c ...api.Count) []api.Count { return c }

// wrongTimes are timestamps that are not right.
func wrongTimes() []api.Time {
	return []api.Time{{}, {D: -1}, {D: 5}, {D: math.MinInt}, {D: math.MaxInt}, {D: 5, C: [4]int{1, 1, 1, 1}},
		of(-1), of(topEpoch + 1), of(math.MinInt), of(math.MaxInt), of(0, -1), of(0, topCount+1), of(0, 0, topCount+1), of(0, 0, 0, topCount+1),
		{D: 1, C: [4]int{0, 1}}, {D: 2, C: [4]int{0, 0, 0, 1}}, {D: 3, C: [4]int{0, 0, 0, -1}}}
}

// wrongNumbers are beyond the range of an N.
func wrongNumbers() []int {
	return []int{top + 1, -top - 1, 2 * top, -2 * top, 1 << 32, -(1 << 32), math.MaxInt, math.MinInt, math.MinInt + top}
}

// rightNumbers are within it, most of them at its ends.
func rightNumbers() []int {
	return []int{0, 1, -1, 2, -2, 7, top, top - 1, top - 2, -top, 1 - top, 2 - top}
}

// few are right timestamps of each depth, in the one order.
func few() []api.Time {
	return []api.Time{of(0), of(0, 0), of(0, 0, 2), of(0, 1, 0, 3), of(0, topCount), of(1), of(1, 2), of(1, 3), of(2, 0), of(topEpoch), of(topEpoch, topCount, topCount, topCount)}
}

// wrongCounts are lists that are no right counts, each by something else.
func wrongCounts() [][]api.Count {
	w := [][]api.Count{
		l(n(0, 3)), l(n(1, 1), n(0, 3)), l(n(0, 1), n(1, 3)), l(n(1, 1), n(0, 2), n(1, 3)),
		l(n(1, 1), n(1, 0)), l(n(1, 2, 0), n(1, 1, 2)), l(n(1, 0, 0), n(1, 0)), l(n(1, 0), n(1, 2), n(1, 1)), l(n(1, 1), n(1, 2), n(1, 0)),
		l(n(1, 1), n(1, 1)), l(n(1, 1), n(-1, 1)), l(n(2, 0), n(1, 1), n(1, 1)), l(n(2, 0), n(1, 1), n(3, 0)), l(n(1, 0), n(2, 0), n(1, 1)),
	}
	for _, t := range wrongTimes() {
		c := api.Count{Time: t, N: 1}
		w = append(w, l(c), l(n(1, 0), c), l(c, n(1, topEpoch)), l(n(1, 0), c, n(1, topEpoch)))
	}
	for _, many := range wrongNumbers() {
		w = append(w, l(n(many, 1)), l(n(1, 0), n(many, 1)), l(n(many, 1), n(1, 2)), l(n(1, 0), n(many, 1), n(1, 2)))
	}
	return w
}

// lists calls f with each list of up to n of the counts, in every order and with the same one more than once.
func lists(n int, of []api.Count, f func(list []api.Count)) {
	var grow func(list []api.Count)
	grow = func(list []api.Count) {
		f(list)
		if len(list) < n {
			for _, c := range of {
				grow(append(slices.Clone(list), c))
			}
		}
	}
	grow(nil)
}

// mixed are counts that make right lists and ones that are not, by each of the reasons.
func mixed() []api.Count {
	return l(n(1, 0), n(-1, 1), n(top, 1), n(-top, 1, 2), n(2, 1, 2), n(3, 1, 3), n(0, 2, 0), n(top+1, 3), n(-top-1, 3), api.Count{N: 1}, n(1, 0, topCount+1))
}

// rights are all right counts of three timestamps, each with one of some numbers or not there.
func rights() [][]api.Count {
	all := [][]api.Count{nil}
	for _, t := range []api.Time{of(0, 3), of(1), of(1, 2)} {
		for _, f := range slices.Clone(all) {
			for _, many := range []int{1, -1, 2, top, -top} {
				all = append(all, append(slices.Clone(f), api.Count{Time: t, N: many}))
			}
		}
	}
	return all
}

// slowRight says whether a list is right counts, pair by pair.
func slowRight(f []api.Count) bool {
	for i, c := range f {
		if !ts.Right(c.Time) || c.N == 0 || c.N < -top || c.N > top {
			return false
		}
		for _, x := range f[i+1:] {
			if !ts.Less(c.Time, x.Time) {
				return false
			}
		}
	}
	return true
}

// slowAt says how often a timestamp is there.
func slowAt(f []api.Count, t api.Time) int {
	i := slices.IndexFunc(f, func(c api.Count) bool { return c.Time == t })
	if !slowRight(f) || i < 0 {
		return 0
	}
	return f[i].N
}

// slowAdd is Add, word by word: the timestamp is taken out, and put back where it belongs.
func slowAdd(f []api.Count, t api.Time, many int) []api.Count {
	if !slowRight(f) || !ts.Right(t) || many < -top || many > top {
		return f
	}
	now := slowAt(f, t) + many
	if now < -top || now > top {
		return f
	}
	var g []api.Count
	for _, c := range f {
		if ts.Less(c.Time, t) {
			g = append(g, c)
		}
	}
	if now != 0 {
		g = append(g, api.Count{Time: t, N: now})
	}
	for _, c := range f {
		if ts.Less(t, c.Time) {
			g = append(g, c)
		}
	}
	return g
}

// slowAll is All, word by word.
func slowAll(a, b []api.Count) []api.Count {
	if !slowRight(b) {
		return a
	}
	for _, c := range b {
		a = slowAdd(a, c.Time, c.N)
	}
	return a
}

func TestP4_1_Right(t *testing.T) {
	for _, f := range [][]api.Count{
		nil, l(), l(n(1, 0)), l(n(-1, 0)), l(n(top, 0)), l(n(-top, 0)), l(n(top-1, 4), n(1-top, 5)),
		l(n(1, 0), n(1, 1)), l(n(-3, 1), n(5, 1, 0), n(1, 1, 0, 0), n(-1, 1, 0, 0, 0)), l(n(1, 1, 2), n(1, 1, 3), n(1, 2, 0)), l(n(1, 1, 9), n(1, 2)),
		l(n(1, topEpoch-1, topCount), n(1, topEpoch), n(1, topEpoch, topCount), n(1, topEpoch, topCount, topCount, topCount)),
	} {
		if !front.Right(f) {
			t.Errorf("%v are not right", f)
		}
	}
	for _, f := range wrongCounts() {
		if front.Right(f) {
			t.Errorf("%v are right", f)
		}
	}
	met := 0
	lists(4, mixed(), func(f []api.Count) {
		if got := front.Right(f); got != slowRight(f) {
			t.Fatalf("Right(%v) = %v", f, got)
		} else if got && len(f) == 4 {
			met++
		}
	})
	if met == 0 {
		t.Error("no right counts were met")
	}
}

func TestP4_1_Add(t *testing.T) {
	f := l(n(2, 1, 2), n(-3, 2, 0))
	for _, c := range []struct {
		f    []api.Count
		t    api.Time
		n    int
		want []api.Count
	}{
		{nil, of(3), 1, l(n(1, 3))}, {nil, of(3), -1, l(n(-1, 3))}, {l(), of(3), 5, l(n(5, 3))}, {nil, of(3), 0, nil}, {l(), of(3), 0, nil}, {nil, api.Time{}, 1, nil},
		{f, of(0), 1, l(n(1, 0), n(2, 1, 2), n(-3, 2, 0))}, {f, of(1), 1, l(n(1, 1), n(2, 1, 2), n(-3, 2, 0))}, {f, of(1, 3), -1, l(n(2, 1, 2), n(-1, 1, 3), n(-3, 2, 0))},
		{f, of(2), 4, l(n(2, 1, 2), n(4, 2), n(-3, 2, 0))}, {f, of(2, 0, 0), 4, l(n(2, 1, 2), n(-3, 2, 0), n(4, 2, 0, 0))}, {f, of(topEpoch), 1, l(n(2, 1, 2), n(-3, 2, 0), n(1, topEpoch))},
		{f, of(1, 2), 1, l(n(3, 1, 2), n(-3, 2, 0))}, {f, of(1, 2), -1, l(n(1, 1, 2), n(-3, 2, 0))}, {f, of(1, 2), -5, l(n(-3, 1, 2), n(-3, 2, 0))}, {f, of(2, 0), 5, l(n(2, 1, 2), n(2, 2, 0))},
		{f, of(1, 2), -2, l(n(-3, 2, 0))}, {f, of(2, 0), 3, l(n(2, 1, 2))}, {l(n(7, 5)), of(5), -7, nil}, {l(n(-7, 5)), of(5), 7, nil},
		{f, of(1, 2), 0, f}, {f, of(2, 0), 0, f}, {f, of(7), 0, f},
	} {
		if got := front.Add(c.f, c.t, c.n); !slices.Equal(got, c.want) {
			t.Errorf("Add(%v, %v, %d) = %v, not %v", c.f, c.t, c.n, got, c.want)
		}
	}
}

func TestP4_1_AddAtTheEndsOfTheRange(t *testing.T) {
	for _, c := range []struct{ at, n, want int }{
		{0, top, top}, {0, top - 1, top - 1}, {0, top + 1, 0}, {0, -top, -top}, {0, 1 - top, 1 - top}, {0, -top - 1, 0}, {0, math.MaxInt, 0}, {0, math.MinInt, 0},
		{top, 0, top}, {top, 1, top}, {top, -1, top - 1}, {top, top, top}, {top, -top, 0}, {top, -top - 1, top}, {top - 1, 1, top}, {top - 1, 2, top - 1}, {1, top - 1, top}, {1, top, 1},
		{-top, 0, -top}, {-top, -1, -top}, {-top, 1, 1 - top}, {-top, -top, -top}, {-top, top, 0}, {-top, top + 1, -top}, {1 - top, -1, -top}, {1 - top, -2, 1 - top}, {-1, 1 - top, -top}, {-1, -top, -1},
		{-1, top, top - 1}, {-1, top + 1, -1}, {1, -top, 1 - top}, {1, -top - 1, 1}, {-5, top + 5, -5}, {5, -top - 5, 5}, {top, math.MaxInt, top}, {-top, math.MinInt, -top}, {top, math.MinInt, top}, {-top, math.MaxInt, -top},
	} {
		f, want := l(n(1, 0), n(2, 5)), l(n(1, 0), n(2, 5))
		if c.at != 0 {
			f = l(n(1, 0), n(c.at, 4), n(2, 5))
		}
		if c.want != 0 {
			want = l(n(1, 0), n(c.want, 4), n(2, 5))
		}
		if got := front.Add(f, of(4), c.n); !slices.Equal(got, want) {
			t.Errorf("there %d times, %d more: %v", c.at, c.n, got)
		}
	}
	numbers := append(rightNumbers(), wrongNumbers()...)
	for _, at := range rightNumbers() {
		for _, many := range numbers {
			f := slowAdd(nil, of(4), at)
			if got := front.Add(f, of(4), many); !slices.Equal(got, slowAdd(f, of(4), many)) {
				t.Errorf("there %d times, %d more: %v", at, many, got)
			}
		}
	}
}

func TestP4_1_AddOfWhatIsNotRight(t *testing.T) {
	f := l(n(2, 1, 2), n(-3, 2, 0))
	for _, w := range wrongTimes() {
		for _, many := range []int{1, -1, 0, top, math.MaxInt} {
			if got := front.Add(f, w, many); !slices.Equal(got, f) {
				t.Errorf("Add(%v, %v, %d) = %v", f, w, many, got)
			}
		}
		if got := front.Add(nil, w, 1); len(got) != 0 {
			t.Errorf("Add of %v to none = %v", w, got)
		}
	}
	for _, w := range wrongCounts() {
		for _, x := range append(few(), api.Time{}) {
			for _, many := range []int{1, -1, 0, top, top + 1} {
				if got := front.Add(w, x, many); !slices.Equal(got, w) {
					t.Errorf("Add(%v, %v, %d) = %v", w, x, many, got)
				}
			}
		}
	}
}

func TestP4_1_AddToAllLists(t *testing.T) {
	lists(3, mixed(), func(f []api.Count) {
		for _, c := range mixed() {
			for _, many := range []int{c.N, -c.N, 1} {
				if got := front.Add(f, c.Time, many); !slices.Equal(got, slowAdd(f, c.Time, many)) {
					t.Fatalf("Add(%v, %v, %d) = %v", f, c.Time, many, got)
				}
			}
		}
	})
	for _, f := range rights() {
		for _, x := range append(few(), of(0, 3)) {
			for _, many := range rightNumbers() {
				got := front.Add(f, x, many)
				if !slices.Equal(got, slowAdd(f, x, many)) || !front.Right(got) {
					t.Fatalf("Add(%v, %v, %d) = %v", f, x, many, got)
				}
			}
		}
	}
}

func TestP4_1_At(t *testing.T) {
	f := l(n(-4, 0), n(2, 1, 2), n(top, 1, 3), n(-top, 2, 0))
	for _, c := range []struct {
		f    []api.Count
		t    api.Time
		want int
	}{
		{f, of(0), -4}, {f, of(1, 2), 2}, {f, of(1, 3), top}, {f, of(2, 0), -top},
		{f, of(1), 0}, {f, of(0, 0), 0}, {f, of(1, 1), 0}, {f, of(1, 2, 0), 0}, {f, of(2), 0}, {f, of(topEpoch), 0}, {nil, of(0), 0}, {l(), of(0), 0}, {l(n(3, 5)), of(5), 3}, {l(n(3, 5)), of(4), 0},
	} {
		if got := front.At(c.f, c.t); got != c.want {
			t.Errorf("At(%v, %v) = %d, not %d", c.f, c.t, got, c.want)
		}
	}
	for _, w := range wrongTimes() {
		if got := front.At(f, w); got != 0 {
			t.Errorf("%v is there %d times", w, got)
		}
	}
	for _, w := range wrongCounts() {
		for _, c := range append(slices.Clone(w), n(0, 0), n(0, topEpoch)) {
			if got := front.At(w, c.Time); got != 0 {
				t.Errorf("At(%v, %v) = %d", w, c.Time, got)
			}
		}
	}
	lists(3, mixed(), func(f []api.Count) {
		for _, c := range mixed() {
			if got := front.At(f, c.Time); got != slowAt(f, c.Time) {
				t.Fatalf("At(%v, %v) = %d", f, c.Time, got)
			}
		}
	})
}

func TestP4_1_Total(t *testing.T) {
	for _, c := range []struct {
		f    []api.Count
		want int
	}{
		{nil, 0}, {l(), 0}, {l(n(3, 1)), 3}, {l(n(-3, 1)), -3}, {l(n(-1, 0), n(2, 1, 2), n(1, 1, 3)), 2}, {l(n(-1, 0), n(1, 1)), 0}, {l(n(-5, 0), n(1, 1), n(1, 2)), -3},
		{l(n(top, 0), n(top, 1), n(top, 2)), 3 * top}, {l(n(-top, 0), n(-top, 1), n(-top, 2)), -3 * top}, {l(n(top, 0), n(-top, 1)), 0}, {l(n(top, 0), n(1, 1)), top + 1},
	} {
		if got := front.Total(c.f); got != c.want {
			t.Errorf("Total(%v) = %d, not %d", c.f, got, c.want)
		}
	}
	for _, w := range wrongCounts() {
		if got := front.Total(w); got != 0 {
			t.Errorf("Total(%v) = %d", w, got)
		}
	}
	lists(4, mixed(), func(f []api.Count) {
		want := 0
		for _, c := range f {
			if slowRight(f) {
				want += c.N
			}
		}
		if got := front.Total(f); got != want {
			t.Fatalf("Total(%v) = %d", f, got)
		}
	})
}

func TestP4_1_Frontier(t *testing.T) {
	for _, c := range []struct {
		f    []api.Count
		want []api.Time
	}{
		{nil, nil}, {l(), nil}, {l(n(1, 3)), []api.Time{of(3)}}, {l(n(-1, 3)), nil}, {l(n(-top, 3)), nil}, {l(n(top, 3)), []api.Time{of(3)}}, {l(n(1, 1), n(1, 2)), []api.Time{of(1)}},
		{l(n(-1, 1), n(1, 2)), []api.Time{of(2)}}, {l(n(1, 1), n(-1, 2)), []api.Time{of(1)}}, {l(n(-1, 0), n(2, 1, 2), n(1, 1, 3)), []api.Time{of(1, 2)}}, {l(n(1, 1, 3)), []api.Time{of(1, 3)}},
		{l(n(1, 0), n(1, 1, 2), n(1, 1, 3), n(1, 2, 0)), []api.Time{of(0), of(1, 2), of(2, 0)}}, {l(n(1, 0, 5), n(-2, 1, 1), n(1, 1, 3), n(1, 2, 4)), []api.Time{of(0, 5), of(1, 3)}},
		{l(n(9, 0), n(9, 0, 0), n(9, 0, 0, 0), n(9, 0, 0, 0, 0)), []api.Time{of(0), of(0, 0), of(0, 0, 0), of(0, 0, 0, 0)}}, {l(n(-1, 0), n(-2, 1), n(-3, 1, 2)), nil},
	} {
		if got := front.Frontier(c.f); !slices.Equal(got, c.want) {
			t.Errorf("Frontier(%v) = %v, not %v", c.f, got, c.want)
		}
	}
	for _, w := range wrongCounts() {
		if got := front.Frontier(w); len(got) != 0 {
			t.Errorf("Frontier(%v) = %v", w, got)
		}
	}
	lists(4, mixed(), func(f []api.Count) {
		var there []api.Time
		for _, c := range f {
			if slowRight(f) && c.N > 0 {
				there = append(there, c.Time)
			}
		}
		if got := front.Frontier(f); !slices.Equal(got, chain.Of(there)) {
			t.Fatalf("Frontier(%v) = %v", f, got)
		}
	})
}

func TestP4_2_All(t *testing.T) {
	f := l(n(2, 1, 2), n(-3, 2, 0))
	for _, c := range []struct{ a, b, want []api.Count }{
		{nil, nil, nil}, {l(), l(), nil}, {f, nil, f}, {f, l(), f}, {nil, f, f}, {l(), f, f}, {f, l(n(-2, 1, 2), n(3, 2, 0)), nil}, {f, f, l(n(4, 1, 2), n(-6, 2, 0))},
		{l(n(1, 0), n(1, 2)), l(n(1, 1), n(1, 3)), l(n(1, 0), n(1, 1), n(1, 2), n(1, 3))}, {l(n(1, 1), n(1, 3)), l(n(1, 0), n(1, 2)), l(n(1, 0), n(1, 1), n(1, 2), n(1, 3))},
		{l(n(1, 0), n(1, 1)), l(n(1, 2), n(1, 3)), l(n(1, 0), n(1, 1), n(1, 2), n(1, 3))}, {l(n(1, 2), n(1, 3)), l(n(1, 0), n(1, 1)), l(n(1, 0), n(1, 1), n(1, 2), n(1, 3))},
		{l(n(1, 0), n(5, 1), n(2, 4)), l(n(-5, 1), n(7, 2), n(-3, 4)), l(n(1, 0), n(7, 2), n(-1, 4))}, {l(n(5, 1)), l(n(1, 1, 0)), l(n(5, 1), n(1, 1, 0))},
		{l(n(top, 1), n(1, 2)), l(n(1, 1), n(1, 2)), l(n(top, 1), n(2, 2))}, {l(n(-top, 1), n(1, 2)), l(n(-1, 1), n(1, 2)), l(n(-top, 1), n(2, 2))},
		{l(n(top-1, 1), n(1-top, 2)), l(n(1, 1), n(-1, 2)), l(n(top, 1), n(-top, 2))}, {l(n(1, 1), n(1, 2)), l(n(top, 1), n(top-1, 2)), l(n(1, 1), n(top, 2))},
		{l(n(top, 1), n(-top, 2)), l(n(-top, 1), n(top, 2), n(4, 3)), l(n(4, 3))}, {l(n(top, 1)), l(n(top, 0), n(top, 1), n(top, 2)), l(n(top, 0), n(top, 1), n(top, 2))},
	} {
		if got := front.All(c.a, c.b); !slices.Equal(got, c.want) {
			t.Errorf("All(%v, %v) = %v, not %v", c.a, c.b, got, c.want)
		}
	}
	for _, w := range wrongCounts() {
		for _, x := range append(wrongCounts(), nil, f, l(n(1, 0)), l(n(1, 1), n(1, 2), n(1, 3))) {
			if got := front.All(x, w); !slices.Equal(got, x) {
				t.Fatalf("All(%v, %v) = %v", x, w, got)
			}
			if got := front.All(w, x); !slices.Equal(got, w) {
				t.Fatalf("All(%v, %v) = %v", w, x, got)
			}
		}
	}
}

func TestP4_2_AllOfAllLists(t *testing.T) {
	lists(2, mixed(), func(a []api.Count) {
		lists(2, mixed(), func(b []api.Count) {
			if got := front.All(a, b); !slices.Equal(got, slowAll(a, b)) {
				t.Fatalf("All(%v, %v) = %v", a, b, got)
			}
		})
	})
	for _, a := range rights() {
		for _, b := range rights() {
			got := front.All(a, b)
			if !slices.Equal(got, slowAll(a, b)) || !front.Right(got) {
				t.Fatalf("All(%v, %v) = %v", a, b, got)
			}
		}
	}
}

// All goes one by one: the same as Add of each, in whatever order.
func TestP4_2_OneByOne(t *testing.T) {
	for _, a := range rights() {
		for _, b := range rights() {
			ahead, back := a, a
			for i, c := range b {
				ahead = front.Add(ahead, c.Time, c.N)
				back = front.Add(back, b[len(b)-1-i].Time, b[len(b)-1-i].N)
			}
			if got := front.All(a, b); !slices.Equal(got, ahead) || !slices.Equal(got, back) {
				t.Fatalf("All(%v, %v) = %v, one by one: %v, from behind: %v", a, b, got, ahead, back)
			}
		}
	}
}

// Long counts take no longer than their lengths.
func TestP4_2_LongLists(t *testing.T) {
	var a, b, away, want []api.Count
	for i := range 200000 {
		a = append(a, n(1, 2*i), n(3, 2*i, 1))
		b = append(b, n(2, 2*i), n(5, 2*i+1))
		away = append(away, n(-3, 2*i, 1), n(-5, 2*i+1))
		want = append(want, n(3, 2*i))
	}
	got := front.All(front.All(a, b), away)
	if !slices.Equal(got, want) || front.Total(got) != 600000 || !slices.Equal(front.Frontier(got), []api.Time{of(0)}) {
		t.Errorf("%d counts", len(got))
	}
}

// permuted calls f with each order of a list.
func permuted(list []api.Count, f func(list []api.Count)) {
	var turn func(head, rest []api.Count)
	turn = func(head, rest []api.Count) {
		if len(rest) == 0 {
			f(head)
		}
		for i := range rest {
			turn(append(slices.Clone(head), rest[i]), slices.Concat(rest[:i], rest[i+1:]))
		}
	}
	turn(nil, list)
}

// added puts each of a list to counts, one by one; false: one was left out.
func added(f, list []api.Count) ([]api.Count, bool) {
	whole := true
	for _, c := range list {
		now := front.At(f, c.Time) + c.N
		whole = whole && -top <= now && now <= top
		f = front.Add(f, c.Time, c.N)
	}
	return f, whole
}

func TestP4_3_TakenAwayAsOftenLeavesNothing(t *testing.T) {
	pool := l(n(1, 0), n(2, 0, 3), n(top/4, 1), n(-3, 1, 2), n(-top/4, 1, 0), n(1, 2))
	lists(4, pool, func(list []api.Count) {
		var f []api.Count
		for _, c := range list {
			f = front.Add(f, c.Time, c.N)
		}
		full := f
		for _, c := range list {
			f = front.Add(f, c.Time, -c.N)
		}
		for i := range list {
			c := list[len(list)-1-i]
			full = front.Add(full, c.Time, -c.N)
		}
		if len(f) != 0 || len(full) != 0 {
			t.Fatalf("of %v there is left %v, from behind %v", list, f, full)
		}
	})
	for _, f := range rights() {
		var minus []api.Count
		for _, c := range f {
			minus = append(minus, api.Count{Time: c.Time, N: -c.N})
		}
		if got := front.All(f, minus); len(got) != 0 {
			t.Errorf("of %v there is left %v", f, got)
		}
		for _, c := range f {
			for _, x := range few() {
				if got, ok := added(f, l(api.Count{Time: x, N: c.N}, api.Count{Time: x, N: -c.N})); ok && !slices.Equal(got, f) {
					t.Fatalf("%v with %v there and away became %v", f, x, got)
				}
			}
		}
	}
}

func TestP4_3_TheOrderOfAddingDoesNotMatter(t *testing.T) {
	pool := l(n(1, 0), n(-1, 0), n(top, 1), n(-top, 1), n(1, 1), n(2, 1, 2), n(-2, 1, 2))
	lists(4, pool, func(list []api.Count) {
		sum := make(map[api.Time]int)
		for _, c := range list {
			sum[c.Time] += c.N
		}
		permuted(list, func(turned []api.Count) {
			f, whole := added(nil, turned)
			if !front.Right(f) {
				t.Fatalf("%v added: %v", turned, f)
			}
			for x, many := range sum {
				if whole && front.At(f, x) != many {
					t.Fatalf("%v added: %v", turned, f)
				}
			}
			if whole && len(f) != len(slowThere(sum)) {
				t.Fatalf("%v added: %v", turned, f)
			}
		})
	})
}

// slowThere are the timestamps of a sum that are there more or less than 0 times.
func slowThere(sum map[api.Time]int) []api.Time {
	var there []api.Time
	for t, many := range sum {
		if many != 0 {
			there = append(there, t)
		}
	}
	return there
}

// Where one is left out, the order does matter: the promise says no more than it says.
func TestP4_3_OneLeftOut(t *testing.T) {
	full := l(n(top, 1))
	if got := front.Add(front.Add(full, of(1), 1), of(1), -1); !slices.Equal(got, l(n(top-1, 1))) {
		t.Errorf("one more, then one less: %v", got)
	}
	if got := front.Add(front.Add(full, of(1), -1), of(1), 1); !slices.Equal(got, full) {
		t.Errorf("one less, then one more: %v", got)
	}
}

func TestP4_3_TheExample(t *testing.T) {
	f := front.Add(front.Add(nil, of(1, 2), 2), of(1, 3), 1)
	if got := front.Frontier(f); !slices.Equal(got, []api.Time{of(1, 2)}) {
		t.Errorf("ahead of it: %v", got)
	}
	if got := front.Frontier(front.Add(f, of(1, 2), -2)); !slices.Equal(got, []api.Time{of(1, 3)}) {
		t.Errorf("%v", got)
	}
}

// roomy is a copy with spare room behind it, and the whole of that room.
func roomy(list []api.Count) ([]api.Count, []api.Count) {
	whole := slices.Concat(list, l(n(7, 77), n(8, 78), n(9, 79)))
	return whole[:len(list)], whole
}

// Neither the lists that are handed in nor their spare room change, and the answers are new memory.
func TestP4_1_NothingHandedInChanges(t *testing.T) {
	hold := func(f []api.Count) {
		a, room := roomy(f)
		b, other := roomy(l(n(1, 0), n(-1, 1, 2), n(4, topEpoch)))
		was, too := slices.Clone(room), slices.Clone(other)
		answers := [][]api.Count{front.All(a, b), front.All(b, a), front.All(a, nil), front.All(nil, a), front.All(a, l(n(0, 1))), front.All(a, a)}
		for _, c := range append(slices.Clone(f), n(1, 0), n(2, topEpoch), n(3, -1), n(top, 1)) {
			answers = append(answers, front.Add(a, c.Time, c.N), front.Add(a, c.Time, -c.N), front.Add(a, c.Time, 0), front.Add(a, c.Time, top+1))
			front.At(a, c.Time)
		}
		front.Right(a)
		front.Total(a)
		front.Frontier(a)
		for _, x := range answers {
			x = x[:cap(x)]
			for i := range x {
				x[i] = n(99, 99)
			}
		}
		if !slices.Equal(room, was) || !slices.Equal(other, too) {
			t.Fatalf("%v became %v; %v became %v", was, room, too, other)
		}
	}
	lists(3, mixed(), hold)
	for _, f := range rights() {
		hold(f)
	}
}

// Answers share nothing with one another either.
func TestP4_1_AnswersAreTheirOwn(t *testing.T) {
	f := l(n(2, 1, 2), n(-3, 2, 0))
	calls := []func() []api.Count{
		func() []api.Count { return front.Add(f, of(5), 1) }, func() []api.Count { return front.Add(f, of(5), 0) }, func() []api.Count { return front.Add(f, api.Time{}, 1) },
		func() []api.Count { return front.All(f, nil) }, func() []api.Count { return front.All(nil, f) }, func() []api.Count { return front.All(f, l(n(0, 1))) },
	}
	for i, call := range calls {
		one, other := call(), call()
		want := slices.Clone(other)
		one = one[:cap(one)]
		for j := range one {
			one[j] = n(99, 99)
		}
		if !slices.Equal(other, want) {
			t.Errorf("call %d: %v became %v", i, want, other)
		}
	}
}
