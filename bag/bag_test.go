package bag_test

import (
	"math"
	"slices"
	"testing"

	"backwash/api"
	"backwash/bag"
)

const (
	top      = 1 << 31
	topItems = 1 << 16
	least    = math.MinInt64
	greatest = math.MaxInt64
)

// r is a record.
func r(k, v int64) api.Rec { return api.Rec{K: k, V: v} }

// n is a record, so many times.
func n(many int, k, v int64) api.Item { return api.Item{Rec: r(k, v), N: many} }

// l is a list of records that are counted.
func l(x ...api.Item) []api.Item { return x }

// recs is a list of records.
func recs(x ...api.Rec) []api.Rec { return x }

// few are records in their order, the least and the greatest that there are among them.
func few() []api.Rec {
	return recs(r(least, least), r(least, least+1), r(least, 0), r(least, greatest), r(least+1, least), r(-2, 9), r(-1, -1), r(-1, 0), r(-1, 1), r(0, least),
		r(0, -1), r(0, 0), r(0, 1), r(0, greatest), r(1, -7), r(1, 2), r(2, 1), r(1<<32, 0), r(greatest-1, greatest), r(greatest, least), r(greatest, 0), r(greatest, greatest))
}

// wrongNumbers are beyond the range of an N.
func wrongNumbers() []int {
	return []int{top + 1, -top - 1, 2 * top, -2 * top, 1 << 32, -(1 << 32), math.MaxInt, math.MinInt, math.MinInt + 1, math.MinInt + top}
}

// rightNumbers are within it, most of them at its ends.
func rightNumbers() []int {
	return []int{0, 1, -1, 2, -2, 7, top, top - 1, top - 2, -top, 1 - top, 2 - top}
}

// wrongBags are lists that are no right bags, each by something else.
func wrongBags() [][]api.Item {
	w := [][]api.Item{
		l(n(0, 3, 4)), l(n(1, 1, 1), n(0, 3, 4)), l(n(0, 1, 1), n(1, 3, 4)), l(n(1, 1, 1), n(0, 2, 2), n(1, 3, 4)),
		l(n(1, 1, 1), n(1, 0, 5)), l(n(1, 1, 1), n(1, 1, 0)), l(n(1, 1, 0), n(1, -1, 0)), l(n(1, 1, 0), n(1, 1, -1)), l(n(1, greatest, 0), n(1, least, 0)), l(n(1, 0, greatest), n(1, 0, least)),
		l(n(1, 0, 0), n(1, 2, 0), n(1, 1, 0)), l(n(1, 1, 0), n(1, 2, 0), n(1, 0, 0)), l(n(1, 2, 0), n(1, 0, 0), n(1, 1, 0)),
		l(n(1, 1, 1), n(1, 1, 1)), l(n(1, 1, 1), n(-1, 1, 1)), l(n(2, 0, 3), n(1, 1, 1), n(1, 1, 1)), l(n(1, 1, 1), n(1, 1, 1), n(1, 2, 2)), l(n(1, 1, 1), n(1, 2, 2), n(1, 1, 1)),
	}
	for _, many := range wrongNumbers() {
		w = append(w, l(n(many, 1, 1)), l(n(1, 0, 9), n(many, 1, 1)), l(n(many, 1, 1), n(1, 1, 2)), l(n(1, 0, 9), n(many, 1, 1), n(1, 1, 2)))
	}
	return w
}

// lists calls f with each list of up to n of these, in every order and with the same one more than once.
func lists[T any](n int, of []T, f func(list []T)) {
	var grow func(list []T)
	grow = func(list []T) {
		f(list)
		if len(list) < n {
			for _, x := range of {
				grow(append(slices.Clone(list), x))
			}
		}
	}
	grow(nil)
}

// permuted calls f with each order of a list.
func permuted[T any](list []T, f func(list []T)) {
	var turn func(head, rest []T)
	turn = func(head, rest []T) {
		if len(rest) == 0 {
			f(head)
		}
		for i := range rest {
			turn(append(slices.Clone(head), rest[i]), slices.Concat(rest[:i], rest[i+1:]))
		}
	}
	turn(nil, list)
}

// mixed are items that make right bags and ones that are not, by each of the reasons.
func mixed() []api.Item {
	return l(n(1, -1, 4), n(-1, 1, 2), n(top, 1, 2), n(-top, 1, 3), n(2, 1, 3), n(3, 2, 1), n(0, 2, 0), n(top+1, 3, 0), n(-top-1, 3, 0))
}

// rights are all right bags of three records, each with one of some numbers or not there.
func rights() [][]api.Item {
	all := [][]api.Item{nil}
	for _, x := range recs(r(-1, 4), r(1, 2), r(1, 3)) {
		for _, b := range slices.Clone(all) {
			for _, many := range []int{1, -1, 2, top, -top} {
				all = append(all, append(slices.Clone(b), api.Item{Rec: x, N: many}))
			}
		}
	}
	return all
}

// slowLess is Less, word by word.
func slowLess(a, b api.Rec) bool {
	if a.K != b.K {
		return a.K < b.K
	}
	return a.V < b.V
}

// slowCompare two records by slowLess.
func slowCompare(a, b api.Rec) int {
	switch {
	case slowLess(a, b):
		return -1
	case slowLess(b, a):
		return 1
	}
	return 0
}

// slowRight says whether a list is a right bag, pair by pair.
func slowRight(b []api.Item) bool {
	for i, x := range b {
		if x.N == 0 || x.N < -top || x.N > top {
			return false
		}
		for _, y := range b[i+1:] {
			if !slowLess(x.Rec, y.Rec) {
				return false
			}
		}
	}
	return true
}

// slowAt says how often a record is there in a right bag.
func slowAt(b []api.Item, x api.Rec) int {
	for _, y := range b {
		if y.Rec == x {
			return y.N
		}
	}
	return 0
}

// slowAdd is Add, word by word: the record is taken out, and put back where it belongs.
func slowAdd(b []api.Item, x api.Rec, many int) []api.Item {
	if !slowRight(b) || many < -top || many > top {
		return b
	}
	now := slowAt(b, x) + many
	if now < -top || now > top {
		return b
	}
	var c []api.Item
	for _, y := range b {
		if slowLess(y.Rec, x) {
			c = append(c, y)
		}
	}
	if now != 0 {
		c = append(c, api.Item{Rec: x, N: now})
	}
	for _, y := range b {
		if slowLess(x, y.Rec) {
			c = append(c, y)
		}
	}
	return c
}

// slowPlus is Plus with a sign of 1, Minus with one of -1, word by word.
func slowPlus(a, b []api.Item, sign int) []api.Item {
	if !slowRight(b) {
		return a
	}
	for _, x := range b {
		a = slowAdd(a, x.Rec, sign*x.N)
	}
	return a
}

// slowThere is There, word by word.
func slowThere(b []api.Item) []api.Item {
	var there []api.Item
	for _, x := range b {
		if slowRight(b) && x.N > 0 {
			there = append(there, x)
		}
	}
	return there
}

func TestP5_1_Less(t *testing.T) {
	for _, c := range []struct {
		a, b api.Rec
		want bool
	}{
		{r(1, 2), r(2, 1), true}, {r(2, 1), r(1, 2), false}, {r(1, 1), r(1, 2), true}, {r(1, 2), r(1, 1), false}, {r(1, 2), r(1, 2), false}, {r(0, 0), r(0, 0), false},
		{r(-1, 0), r(0, 0), true}, {r(0, 0), r(-1, 0), false}, {r(0, -1), r(0, 0), true}, {r(0, 0), r(0, -1), false}, {r(-2, 5), r(-1, -5), true}, {r(-1, -5), r(-1, -6), false},
		{r(least, 0), r(greatest, 0), true}, {r(greatest, 0), r(least, 0), false}, {r(0, least), r(0, greatest), true}, {r(0, greatest), r(0, least), false},
		{r(least, greatest), r(least+1, least), true}, {r(greatest, least), r(greatest-1, greatest), false}, {r(least, least), r(least, least), false}, {r(1<<32, 0), r(1, 9), false},
	} {
		if got := bag.Less(c.a, c.b); got != c.want {
			t.Errorf("Less(%v, %v) = %v", c.a, c.b, got)
		}
	}
	for i, a := range few() {
		for j, b := range few() {
			if got := bag.Less(a, b); got != (i < j) {
				t.Errorf("Less(%v, %v) = %v", a, b, got)
			}
		}
	}
}

func TestP5_1_Right(t *testing.T) {
	var all []api.Item
	for _, x := range few() {
		all = append(all, api.Item{Rec: x, N: 1})
	}
	for _, b := range [][]api.Item{
		nil, l(), l(n(1, 0, 0)), l(n(-1, 0, 0)), l(n(top, 0, 0)), l(n(-top, 0, 0)), l(n(top-1, 4, 1), n(1-top, 5, 0)), l(n(1, 1, 9), n(1, 2, 0)), l(n(1, 1, 1), n(-1, 1, 2)),
		l(n(-3, -2, 9), n(5, -2, 10), n(1, -1, -1)), l(n(1, least, least), n(1, greatest, greatest)), l(n(1, least, greatest), n(1, greatest, least)), all,
	} {
		if !bag.Right(b) {
			t.Errorf("%v is not right", b)
		}
	}
	for _, b := range wrongBags() {
		if bag.Right(b) {
			t.Errorf("%v is right", b)
		}
	}
	met := 0
	lists(4, mixed(), func(b []api.Item) {
		if got := bag.Right(b); got != slowRight(b) {
			t.Fatalf("Right(%v) = %v", b, got)
		} else if got && len(b) == 4 {
			met++
		}
	})
	if met == 0 {
		t.Error("no right bag was met")
	}
}

func TestP5_1_Add(t *testing.T) {
	b := l(n(2, 1, 2), n(-3, 2, 0))
	ends := l(n(1, least, least), n(1, greatest, greatest))
	for _, c := range []struct {
		b    []api.Item
		r    api.Rec
		n    int
		want []api.Item
	}{
		{nil, r(3, 4), 1, l(n(1, 3, 4))}, {nil, r(3, 4), -1, l(n(-1, 3, 4))}, {l(), r(3, 4), 5, l(n(5, 3, 4))}, {nil, r(0, 0), 1, l(n(1, 0, 0))}, {nil, r(3, 4), 0, nil}, {l(), r(0, 0), 0, nil},
		{b, r(0, 9), 1, l(n(1, 0, 9), n(2, 1, 2), n(-3, 2, 0))}, {b, r(1, 1), 1, l(n(1, 1, 1), n(2, 1, 2), n(-3, 2, 0))}, {b, r(1, 3), -1, l(n(2, 1, 2), n(-1, 1, 3), n(-3, 2, 0))},
		{b, r(2, -1), 4, l(n(2, 1, 2), n(4, 2, -1), n(-3, 2, 0))}, {b, r(2, 1), 4, l(n(2, 1, 2), n(-3, 2, 0), n(4, 2, 1))}, {b, r(-1, 7), 4, l(n(4, -1, 7), n(2, 1, 2), n(-3, 2, 0))},
		{b, r(least, least), 1, l(n(1, least, least), n(2, 1, 2), n(-3, 2, 0))}, {b, r(greatest, greatest), 1, l(n(2, 1, 2), n(-3, 2, 0), n(1, greatest, greatest))},
		{ends, r(least, least), 1, l(n(2, least, least), n(1, greatest, greatest))}, {ends, r(greatest, greatest), -1, l(n(1, least, least))}, {ends, r(0, 0), -1, l(n(1, least, least), n(-1, 0, 0), n(1, greatest, greatest))},
		{b, r(1, 2), 1, l(n(3, 1, 2), n(-3, 2, 0))}, {b, r(1, 2), -1, l(n(1, 1, 2), n(-3, 2, 0))}, {b, r(1, 2), -5, l(n(-3, 1, 2), n(-3, 2, 0))}, {b, r(2, 0), 5, l(n(2, 1, 2), n(2, 2, 0))},
		{b, r(1, 2), -2, l(n(-3, 2, 0))}, {b, r(2, 0), 3, l(n(2, 1, 2))}, {l(n(7, 5, 5)), r(5, 5), -7, nil}, {l(n(-7, 5, 5)), r(5, 5), 7, nil},
		{b, r(1, 2), 0, b}, {b, r(2, 0), 0, b}, {b, r(7, 7), 0, b},
	} {
		if got := bag.Add(c.b, c.r, c.n); !slices.Equal(got, c.want) {
			t.Errorf("Add(%v, %v, %d) = %v, not %v", c.b, c.r, c.n, got, c.want)
		}
	}
}

func TestP5_1_AddAtTheEndsOfTheRange(t *testing.T) {
	for _, c := range []struct{ at, n, want int }{
		{0, top, top}, {0, top - 1, top - 1}, {0, top + 1, 0}, {0, -top, -top}, {0, 1 - top, 1 - top}, {0, -top - 1, 0}, {0, math.MaxInt, 0}, {0, math.MinInt, 0},
		{top, 0, top}, {top, 1, top}, {top, -1, top - 1}, {top, top, top}, {top, -top, 0}, {top, -top - 1, top}, {top - 1, 1, top}, {top - 1, 2, top - 1}, {1, top - 1, top}, {1, top, 1},
		{-top, 0, -top}, {-top, -1, -top}, {-top, 1, 1 - top}, {-top, -top, -top}, {-top, top, 0}, {-top, top + 1, -top}, {1 - top, -1, -top}, {1 - top, -2, 1 - top}, {-1, 1 - top, -top}, {-1, -top, -1},
		{-1, top, top - 1}, {-1, top + 1, -1}, {1, -top, 1 - top}, {1, -top - 1, 1}, {-5, top + 5, -5}, {5, -top - 5, 5}, {top, math.MaxInt, top}, {-top, math.MinInt, -top}, {top, math.MinInt, top}, {-top, math.MaxInt, -top},
	} {
		b, want := l(n(1, 0, 0), n(2, 5, 5)), l(n(1, 0, 0), n(2, 5, 5))
		if c.at != 0 {
			b = l(n(1, 0, 0), n(c.at, 4, 0), n(2, 5, 5))
		}
		if c.want != 0 {
			want = l(n(1, 0, 0), n(c.want, 4, 0), n(2, 5, 5))
		}
		if got := bag.Add(b, r(4, 0), c.n); !slices.Equal(got, want) {
			t.Errorf("there %d times, %d more: %v", c.at, c.n, got)
		}
	}
	for _, at := range rightNumbers() {
		for _, many := range append(rightNumbers(), wrongNumbers()...) {
			b := slowAdd(nil, r(4, 0), at)
			if got := bag.Add(b, r(4, 0), many); !slices.Equal(got, slowAdd(b, r(4, 0), many)) {
				t.Errorf("there %d times, %d more: %v", at, many, got)
			}
		}
	}
}

func TestP5_1_AddToWhatIsNotRight(t *testing.T) {
	for _, w := range wrongBags() {
		for _, x := range append(few(), w[0].Rec, w[len(w)-1].Rec) {
			for _, many := range []int{1, -1, 0, top, -top, top + 1} {
				if got := bag.Add(w, x, many); !slices.Equal(got, w) {
					t.Errorf("Add(%v, %v, %d) = %v", w, x, many, got)
				}
			}
		}
	}
}

func TestP5_1_AddToAllLists(t *testing.T) {
	lists(3, mixed(), func(b []api.Item) {
		for _, x := range mixed() {
			for _, many := range []int{x.N, -x.N, 1} {
				if got := bag.Add(b, x.Rec, many); !slices.Equal(got, slowAdd(b, x.Rec, many)) {
					t.Fatalf("Add(%v, %v, %d) = %v", b, x.Rec, many, got)
				}
			}
		}
	})
	for _, b := range rights() {
		for _, x := range append(few(), r(-1, 4), r(1, 3)) {
			for _, many := range rightNumbers() {
				got := bag.Add(b, x, many)
				if !slices.Equal(got, slowAdd(b, x, many)) || !bag.Right(got) {
					t.Fatalf("Add(%v, %v, %d) = %v", b, x, many, got)
				}
			}
		}
	}
}

func TestP5_1_Same(t *testing.T) {
	b := l(n(2, 1, 2), n(-3, 2, 0))
	for _, c := range []struct {
		a, b []api.Item
		want bool
	}{
		{nil, nil, true}, {nil, l(), true}, {l(), nil, true}, {l(), l(), true}, {b, b, true}, {b, l(n(2, 1, 2), n(-3, 2, 0)), true}, {b, nil, false}, {nil, b, false},
		{b, l(n(2, 1, 2)), false}, {l(n(-3, 2, 0)), b, false}, {b, l(n(2, 1, 2), n(-3, 2, 0), n(1, 3, 0)), false}, {b, l(n(2, 1, 2), n(3, 2, 0)), false}, {b, l(n(1, 1, 2), n(-3, 2, 0)), false},
		{b, l(n(2, 1, 2), n(-3, 2, 1)), false}, {b, l(n(2, 1, 2), n(-3, 3, 0)), false}, {b, l(n(2, 0, 2), n(-3, 2, 0)), false}, {b, l(n(2, 1, 1), n(-3, 2, 0)), false}, {b, l(n(2, -1, 2), n(-3, 2, 0)), false},
		{l(n(top, least, greatest)), l(n(top, least, greatest)), true}, {l(n(top, 0, 0)), l(n(-top, 0, 0)), false}, {l(n(1, least, 0)), l(n(1, greatest, 0)), false}, {l(n(1, 0, 0)), l(n(1<<32+1, 0, 0)), false},
	} {
		if got := bag.Same(c.a, c.b); got != c.want {
			t.Errorf("Same(%v, %v) = %v", c.a, c.b, got)
		}
	}
	for i, a := range rights() {
		for j, b := range rights() {
			if got := bag.Same(a, b); got != (i == j) {
				t.Fatalf("Same(%v, %v) = %v", a, b, got)
			}
		}
	}
	for _, w := range wrongBags() {
		if !bag.Same(w, slices.Clone(w)) || bag.Same(w, nil) || bag.Same(w, w[1:]) {
			t.Errorf("Same of %v", w)
		}
	}
}

func TestP5_2_Plus(t *testing.T) {
	b := l(n(2, 1, 2), n(-3, 2, 0))
	for _, c := range []struct{ a, b, want []api.Item }{
		{nil, nil, nil}, {l(), l(), nil}, {b, nil, b}, {b, l(), b}, {nil, b, b}, {l(), b, b}, {b, l(n(-2, 1, 2), n(3, 2, 0)), nil}, {b, b, l(n(4, 1, 2), n(-6, 2, 0))},
		{l(n(1, 1, 0), n(1, 1, 2)), l(n(1, 1, 1), n(1, 1, 3)), l(n(1, 1, 0), n(1, 1, 1), n(1, 1, 2), n(1, 1, 3))}, {l(n(1, 1, 0), n(1, 3, 0)), l(n(1, 0, 0), n(1, 2, 0)), l(n(1, 0, 0), n(1, 1, 0), n(1, 2, 0), n(1, 3, 0))},
		{l(n(1, -4, 0), n(1, -3, 0)), l(n(1, -2, 0), n(1, -1, 0)), l(n(1, -4, 0), n(1, -3, 0), n(1, -2, 0), n(1, -1, 0))}, {l(n(1, -2, 0), n(1, -1, 0)), l(n(1, -4, 0), n(1, -3, 0)), l(n(1, -4, 0), n(1, -3, 0), n(1, -2, 0), n(1, -1, 0))},
		{l(n(1, 0, 0), n(5, 1, 1), n(2, 4, 4)), l(n(-5, 1, 1), n(7, 2, 2), n(-3, 4, 4)), l(n(1, 0, 0), n(7, 2, 2), n(-1, 4, 4))}, {l(n(1, greatest, greatest)), l(n(1, least, least)), l(n(1, least, least), n(1, greatest, greatest))},
		{l(n(top, 1, 0), n(1, 2, 0)), l(n(1, 1, 0), n(1, 2, 0)), l(n(top, 1, 0), n(2, 2, 0))}, {l(n(-top, 1, 0), n(1, 2, 0)), l(n(-1, 1, 0), n(1, 2, 0)), l(n(-top, 1, 0), n(2, 2, 0))},
		{l(n(top-1, 1, 0), n(1-top, 2, 0)), l(n(1, 1, 0), n(-1, 2, 0)), l(n(top, 1, 0), n(-top, 2, 0))}, {l(n(1, 1, 0), n(1, 2, 0)), l(n(top, 1, 0), n(top-1, 2, 0)), l(n(1, 1, 0), n(top, 2, 0))},
		{l(n(top, 1, 0), n(-top, 2, 0)), l(n(-top, 1, 0), n(top, 2, 0), n(4, 3, 0)), l(n(4, 3, 0))}, {l(n(top, 1, 0)), l(n(top, 0, 0), n(top, 1, 0), n(top, 2, 0)), l(n(top, 0, 0), n(top, 1, 0), n(top, 2, 0))},
	} {
		if got := bag.Plus(c.a, c.b); !slices.Equal(got, c.want) {
			t.Errorf("Plus(%v, %v) = %v, not %v", c.a, c.b, got, c.want)
		}
	}
}

func TestP5_2_Minus(t *testing.T) {
	b := l(n(2, 1, 2), n(-3, 2, 0))
	for _, c := range []struct{ a, b, want []api.Item }{
		{nil, nil, nil}, {l(), l(), nil}, {b, nil, b}, {b, l(), b}, {nil, b, l(n(-2, 1, 2), n(3, 2, 0))}, {l(), b, l(n(-2, 1, 2), n(3, 2, 0))}, {b, b, nil}, {b, l(n(-2, 1, 2), n(3, 2, 0)), l(n(4, 1, 2), n(-6, 2, 0))},
		{l(n(1, 1, 0), n(1, 1, 2)), l(n(1, 1, 1), n(1, 1, 2), n(-4, 2, 0)), l(n(1, 1, 0), n(-1, 1, 1), n(4, 2, 0))}, {l(n(1, least, least)), l(n(1, least, least), n(1, greatest, greatest)), l(n(-1, greatest, greatest))},
		{nil, l(n(-top, 1, 0)), l(n(top, 1, 0))}, {nil, l(n(top, 1, 0)), l(n(-top, 1, 0))}, {l(n(-top, 1, 0)), l(n(-top, 1, 0)), nil}, {l(n(top, 1, 0)), l(n(top, 1, 0)), nil},
		{l(n(-1, 1, 0)), l(n(-top, 1, 0)), l(n(top-1, 1, 0))}, {l(n(1, 1, 0)), l(n(-top, 1, 0)), l(n(1, 1, 0))}, {l(n(-1, 1, 0)), l(n(top, 1, 0)), l(n(-1, 1, 0))}, {l(n(1, 1, 0)), l(n(top, 1, 0)), l(n(1-top, 1, 0))},
		{l(n(top, 1, 0), n(1, 2, 0)), l(n(-1, 1, 0), n(-1, 2, 0)), l(n(top, 1, 0), n(2, 2, 0))}, {l(n(-top, 1, 0), n(1, 2, 0)), l(n(1, 1, 0), n(1, 2, 0)), l(n(-top, 1, 0))}, {l(n(1-top, 1, 0)), l(n(1, 1, 0)), l(n(-top, 1, 0))},
		{l(n(top-1, 1, 0)), l(n(-1, 1, 0)), l(n(top, 1, 0))}, {l(n(top, 1, 0), n(-top, 2, 0)), l(n(-top, 1, 0), n(top, 2, 0), n(4, 3, 0)), l(n(top, 1, 0), n(-top, 2, 0), n(-4, 3, 0))},
	} {
		if got := bag.Minus(c.a, c.b); !slices.Equal(got, c.want) {
			t.Errorf("Minus(%v, %v) = %v, not %v", c.a, c.b, got, c.want)
		}
	}
}

func TestP5_2_PlusAndMinusOfWhatIsNotRight(t *testing.T) {
	b := l(n(2, 1, 2), n(-3, 2, 0))
	for _, w := range wrongBags() {
		for _, x := range append(wrongBags(), nil, b, l(n(1, 0, 0)), l(n(1, 1, 1), n(1, 1, 2), n(1, 3, 4)), l(n(-1, 1, 1))) {
			if plus, minus := bag.Plus(x, w), bag.Minus(x, w); !slices.Equal(plus, x) || !slices.Equal(minus, x) {
				t.Fatalf("of %v and %v: Plus %v, Minus %v", x, w, plus, minus)
			}
			if plus, minus := bag.Plus(w, x), bag.Minus(w, x); !slices.Equal(plus, w) || !slices.Equal(minus, w) {
				t.Fatalf("of %v and %v: Plus %v, Minus %v", w, x, plus, minus)
			}
		}
	}
}

func TestP5_2_PlusAndMinusOfAllLists(t *testing.T) {
	hold := func(a, b []api.Item) {
		plus, minus := bag.Plus(a, b), bag.Minus(a, b)
		if !slices.Equal(plus, slowPlus(a, b, 1)) || !slices.Equal(minus, slowPlus(a, b, -1)) {
			t.Fatalf("of %v and %v: Plus %v, Minus %v", a, b, plus, minus)
		}
		if bag.Right(a) && (!bag.Right(plus) || !bag.Right(minus)) {
			t.Fatalf("of %v and %v: not right: Plus %v, Minus %v", a, b, plus, minus)
		}
	}
	lists(2, mixed(), func(a []api.Item) {
		lists(2, mixed(), func(b []api.Item) { hold(a, b) })
	})
	for _, a := range rights() {
		for _, b := range rights() {
			hold(a, b)
		}
	}
}

// Plus and Minus go one by one: the same as Add of each, in whatever order.
func TestP5_2_OneByOne(t *testing.T) {
	for _, a := range rights() {
		for _, b := range rights() {
			plus, back, minus := a, a, a
			for i, x := range b {
				y := b[len(b)-1-i]
				plus, back, minus = bag.Add(plus, x.Rec, x.N), bag.Add(back, y.Rec, y.N), bag.Add(minus, x.Rec, -x.N)
			}
			if got := bag.Plus(a, b); !slices.Equal(got, plus) || !slices.Equal(got, back) {
				t.Fatalf("Plus(%v, %v) = %v, one by one: %v, from behind: %v", a, b, got, plus, back)
			}
			if got := bag.Minus(a, b); !slices.Equal(got, minus) {
				t.Fatalf("Minus(%v, %v) = %v, one by one: %v", a, b, got, minus)
			}
		}
	}
}

func TestP5_2_There(t *testing.T) {
	for _, c := range []struct{ b, want []api.Item }{
		{nil, nil}, {l(), nil}, {l(n(1, 0, 0)), l(n(1, 0, 0))}, {l(n(-1, 0, 0)), nil}, {l(n(top, least, 0)), l(n(top, least, 0))}, {l(n(-top, greatest, 0)), nil}, {l(n(-1, 0, 0), n(-2, 0, 1)), nil},
		{l(n(3, -1, 5), n(-2, 0, 1), n(1, 1, 1)), l(n(3, -1, 5), n(1, 1, 1))}, {l(n(-2, 0, 1), n(1, 1, 1), n(-1, 2, 2)), l(n(1, 1, 1))}, {l(n(1, 0, 0), n(2, 1, 1)), l(n(1, 0, 0), n(2, 1, 1))},
	} {
		if got := bag.There(c.b); !slices.Equal(got, c.want) {
			t.Errorf("There(%v) = %v, not %v", c.b, got, c.want)
		}
	}
	for _, w := range wrongBags() {
		if got := bag.There(w); len(got) != 0 {
			t.Errorf("There(%v) = %v", w, got)
		}
	}
	lists(4, mixed(), func(b []api.Item) {
		if got := bag.There(b); !slices.Equal(got, slowThere(b)) {
			t.Fatalf("There(%v) = %v", b, got)
		}
	})
}

func TestP5_2_Of(t *testing.T) {
	for _, c := range []struct {
		list []api.Rec
		want []api.Item
	}{
		{nil, nil}, {recs(), nil}, {recs(r(0, 0)), l(n(1, 0, 0))}, {recs(r(1, 2), r(1, 1), r(1, 2)), l(n(1, 1, 1), n(2, 1, 2))}, {recs(r(3, 3), r(3, 3), r(3, 3)), l(n(3, 3, 3))},
		{recs(r(2, 0), r(1, 9), r(2, 0), r(-1, 0)), l(n(1, -1, 0), n(1, 1, 9), n(2, 2, 0))}, {recs(r(0, 1), r(0, -1), r(0, 0)), l(n(1, 0, -1), n(1, 0, 0), n(1, 0, 1))}, {recs(r(1, 5), r(5, 1)), l(n(1, 1, 5), n(1, 5, 1))},
		{recs(r(greatest, greatest), r(least, least), r(greatest, least), r(least, greatest), r(least, least)), l(n(2, least, least), n(1, least, greatest), n(1, greatest, least), n(1, greatest, greatest))},
	} {
		if got := bag.Of(c.list); !slices.Equal(got, c.want) {
			t.Errorf("Of(%v) = %v, not %v", c.list, got, c.want)
		}
	}
	lists(4, recs(r(least, 1), r(-1, 4), r(1, 3), r(1, -3), r(greatest, 0)), func(list []api.Rec) {
		var want, one []api.Item
		for _, x := range list {
			want, one = slowAdd(want, x, 1), bag.Add(one, x, 1)
		}
		if got := bag.Of(list); !slices.Equal(got, want) || !slices.Equal(got, one) || !bag.Right(got) {
			t.Fatalf("Of(%v) = %v", list, got)
		}
	})
}

// Of has no limit but the range: more than MaxItems are a bag, too.
func TestP5_2_OfMoreThanMaxItems(t *testing.T) {
	list := slices.Repeat(recs(r(7, 1), r(-7, 1)), topItems)
	if got := bag.Of(list); !slices.Equal(got, l(n(topItems, -7, 1), n(topItems, 7, 1))) {
		t.Errorf("%v", got)
	}
}

func TestP5_2_List(t *testing.T) {
	for _, c := range []struct {
		b    []api.Item
		want []api.Rec
	}{
		{nil, nil}, {l(), nil}, {l(n(1, 0, 0)), recs(r(0, 0))}, {l(n(3, 4, 5)), recs(r(4, 5), r(4, 5), r(4, 5))}, {l(n(-1, 0, 0)), nil}, {l(n(-top, 0, 0)), nil}, {l(n(-top, 0, 0), n(-topItems, 1, 0), n(-1, 2, 0)), nil},
		{l(n(2, -1, 9), n(-3, 0, 0), n(1, 0, 1), n(2, 1, -5)), recs(r(-1, 9), r(-1, 9), r(0, 1), r(1, -5), r(1, -5))}, {l(n(1, least, least), n(2, greatest, greatest)), recs(r(least, least), r(greatest, greatest), r(greatest, greatest))},
	} {
		if got, ok := bag.List(c.b); !ok || !slices.Equal(got, c.want) {
			t.Errorf("List(%v) = %v, %v, not %v", c.b, got, ok, c.want)
		}
	}
	for _, w := range wrongBags() {
		if got, ok := bag.List(w); !ok || len(got) != 0 {
			t.Errorf("List(%v) = %v, %v", w, got, ok)
		}
	}
	lists(3, l(n(1, -1, 4), n(-1, 1, 2), n(2, 1, 3), n(3, 2, 1), n(0, 2, 0), n(-top, 3, 0)), func(b []api.Item) {
		var want []api.Rec
		for _, x := range slowThere(b) {
			want = append(want, slices.Repeat(recs(x.Rec), x.N)...)
		}
		if got, ok := bag.List(b); !ok || !slices.Equal(got, want) {
			t.Fatalf("List(%v) = %v, %v", b, got, ok)
		}
	})
}

func TestP5_2_ListOfMaxItems(t *testing.T) {
	for _, c := range []struct {
		b  []api.Item
		ok bool
	}{
		{l(n(topItems, 0, 0)), true}, {l(n(topItems-1, 0, 0)), true}, {l(n(topItems+1, 0, 0)), false}, {l(n(top, 0, 0)), false}, {l(n(top, 0, 0), n(top, 1, 0), n(top, 2, 0)), false},
		{l(n(topItems-1, 0, 0), n(1, 1, 0)), true}, {l(n(1, 0, 0), n(topItems-1, 1, 0)), true}, {l(n(topItems, 0, 0), n(1, 1, 0)), false}, {l(n(1, 0, 0), n(topItems, 1, 0)), false},
		{l(n(topItems/2, 0, 0), n(topItems/2, 1, 0)), true}, {l(n(topItems/2, 0, 0), n(topItems/2, 1, 0), n(1, 2, 0)), false}, {l(n(topItems/2, 0, 0), n(topItems/2+1, 1, 0)), false},
		{l(n(-1, 0, 0), n(topItems, 1, 0), n(-5, 2, 0)), true}, {l(n(-1, 0, 0), n(topItems+1, 1, 0)), false}, {l(n(topItems+1, 0, 0), n(-1, 1, 0)), false}, {l(n(-top, 0, 0), n(topItems+1, 1, 0)), false},
		{l(n(topItems+1, 0, 0), n(0, 1, 0)), true}, {l(n(top+1, 0, 0)), true},
	} {
		var want []api.Rec
		for _, x := range slowThere(c.b) {
			if c.ok {
				want = append(want, slices.Repeat(recs(x.Rec), x.N)...)
			}
		}
		if got, ok := bag.List(c.b); ok != c.ok || !slices.Equal(got, want) {
			t.Errorf("List(%v): %d records, %v", c.b, len(got), ok)
		}
	}
	var b []api.Item
	for i := range int64(topItems) {
		b = append(b, n(1, i/3, i))
	}
	if got, ok := bag.List(b); !ok || len(got) != topItems {
		t.Errorf("of %d records: %d, %v", topItems, len(got), ok)
	}
	if got, ok := bag.List(append(b, n(1, topItems, 0))); ok || len(got) != 0 {
		t.Errorf("of one more: %d, %v", len(got), ok)
	}
}

// Long bags take no longer than their lengths.
func TestP5_2_LongBags(t *testing.T) {
	var a, b, away, want []api.Item
	var list []api.Rec
	for i := range int64(200000) {
		a = append(a, n(1, 2*i, 0), n(3, 2*i, 1))
		b = append(b, n(2, 2*i, 0), n(5, 2*i+1, 0))
		away = append(away, n(3, 2*i, 1), n(5, 2*i+1, 0))
		want = append(want, n(3, 2*i, 0))
		list = append(list, r(2*(199999-i), 0), r(2*i, 0), r(2*i, 0))
	}
	if got := bag.Minus(bag.Plus(a, b), away); !slices.Equal(got, want) || !slices.Equal(bag.There(got), want) || !bag.Same(bag.Of(list), want) {
		t.Errorf("%d records", len(got))
	}
}

func TestP5_3_TakenAwayAsOftenLeavesNothing(t *testing.T) {
	pool := l(n(1, -1, 0), n(2, 0, 3), n(top/4, 1, 0), n(-3, 1, 2), n(-top/4, 1, 0), n(1, 2, least))
	lists(4, pool, func(list []api.Item) {
		var b []api.Item
		for _, x := range list {
			b = bag.Add(b, x.Rec, x.N)
		}
		full := b
		for i, x := range list {
			y := list[len(list)-1-i]
			b, full = bag.Add(b, x.Rec, -x.N), bag.Add(full, y.Rec, -y.N)
		}
		if len(b) != 0 || len(full) != 0 {
			t.Fatalf("of %v there is left %v, from behind %v", list, b, full)
		}
	})
	for _, a := range rights() {
		if got := bag.Minus(a, a); len(got) != 0 {
			t.Errorf("of %v there is left %v", a, got)
		}
		for _, b := range rights() {
			if got := bag.Minus(bag.Plus(a, b), b); within(a, b, 1) && !bag.Same(got, a) {
				t.Fatalf("%v with %v there and away became %v", a, b, got)
			}
			if got := bag.Plus(bag.Minus(a, b), b); within(a, b, -1) && !bag.Same(got, a) {
				t.Fatalf("%v with %v away and there became %v", a, b, got)
			}
		}
	}
}

// within says whether none is left out of a bag plus (with a sign of 1), or minus (-1) another one.
func within(a, b []api.Item, sign int) bool {
	return !slices.ContainsFunc(b, func(x api.Item) bool {
		now := slowAt(a, x.Rec) + sign*x.N
		return now < -top || now > top
	})
}

// added puts each of a list to a bag, one by one; false: one was left out.
func added(b, list []api.Item) ([]api.Item, bool) {
	whole := true
	for _, x := range list {
		whole = whole && within(b, l(x), 1)
		b = bag.Add(b, x.Rec, x.N)
	}
	return b, whole
}

func TestP5_3_TheOrderOfAddingDoesNotMatter(t *testing.T) {
	pool := l(n(1, 0, 0), n(-1, 0, 0), n(top, 1, 1), n(-top, 1, 1), n(1, 1, 1), n(2, -1, 2), n(-2, -1, 2))
	met := 0
	lists(4, pool, func(list []api.Item) {
		sum := make(map[api.Rec]int)
		for _, x := range list {
			sum[x.Rec] += x.N
		}
		var want []api.Item
		for x, many := range sum {
			if many != 0 {
				want = append(want, api.Item{Rec: x, N: many})
			}
		}
		slices.SortFunc(want, func(a, b api.Item) int { return slowCompare(a.Rec, b.Rec) })
		permuted(list, func(turned []api.Item) {
			b, whole := added(nil, turned)
			if !bag.Right(b) || whole && !bag.Same(b, want) {
				t.Fatalf("%v added: %v", turned, b)
			}
			if whole && len(turned) == 4 {
				met++
			}
		})
	})
	if met == 0 {
		t.Error("one was left out of each")
	}
}

func TestP5_3_TheOrderOfBagsDoesNotMatter(t *testing.T) {
	small := [][]api.Item{nil, l(n(1, 1, 1)), l(n(-2, 1, 1), n(1, 1, 2)), l(n(top/4, -1, 0), n(1, 1, 1)), l(n(-top/4, -1, 0)), l(n(3, 1, 2), n(-1, greatest, 0))}
	lists(4, small, func(bags [][]api.Item) {
		var plus, minus []api.Item
		for i, b := range bags {
			plus, minus = bag.Plus(plus, b), bag.Minus(minus, bags[len(bags)-1-i])
		}
		if got := bag.Plus(plus, minus); len(got) != 0 {
			t.Fatalf("of %v: together %v, away %v", bags, plus, minus)
		}
		permuted(bags, func(turned [][]api.Item) {
			var sum []api.Item
			for _, b := range turned {
				sum = bag.Plus(b, sum)
			}
			if !bag.Same(sum, plus) {
				t.Fatalf("%v together: %v", turned, sum)
			}
		})
	})
}

func TestP5_3_TheOrderOfRecordsDoesNotMatter(t *testing.T) {
	lists(4, recs(r(0, 0), r(0, -1), r(least, 5), r(greatest, 5)), func(list []api.Rec) {
		want := bag.Of(list)
		permuted(list, func(turned []api.Rec) {
			if got := bag.Of(turned); !bag.Same(got, want) {
				t.Fatalf("Of(%v) = %v", turned, got)
			}
		})
	})
}

// Where one is left out, the order does matter: the promise says no more than it says.
func TestP5_3_OneLeftOut(t *testing.T) {
	full := l(n(top, 1, 1))
	if got := bag.Add(bag.Add(full, r(1, 1), 1), r(1, 1), -1); !slices.Equal(got, l(n(top-1, 1, 1))) {
		t.Errorf("one more, then one less: %v", got)
	}
	if got := bag.Add(bag.Add(full, r(1, 1), -1), r(1, 1), 1); !slices.Equal(got, full) {
		t.Errorf("one less, then one more: %v", got)
	}
}

func TestP5_3_OfAListIsWhatIsThere(t *testing.T) {
	hold := func(b []api.Item) {
		if list, ok := bag.List(b); ok && !bag.Same(bag.Of(list), bag.There(b)) {
			t.Fatalf("Of the List of %v is %v", b, bag.Of(list))
		}
	}
	lists(3, l(n(1, -1, 4), n(-1, 1, 2), n(2, 1, 3), n(3, 2, 1), n(0, 2, 0), n(-top, 3, 0)), hold)
	for _, b := range append(wrongBags(), l(n(topItems, 4, 4)), l(n(topItems-1, least, greatest), n(-top, 0, 0), n(1, greatest, least))) {
		hold(b)
	}
	lists(4, few()[:9], func(list []api.Rec) {
		b := bag.Of(list)
		sorted := slices.Clone(list)
		slices.SortFunc(sorted, slowCompare)
		if got, ok := bag.List(b); !ok || !slices.Equal(got, sorted) {
			t.Fatalf("List of Of %v is %v, %v", list, got, ok)
		}
	})
}

func TestP5_3_TheExample(t *testing.T) {
	if got := bag.Of(recs(r(1, 2), r(1, 1), r(1, 2))); !slices.Equal(got, l(n(1, 1, 1), n(2, 1, 2))) {
		t.Errorf("%v", got)
	}
}

// roomy is a copy with spare room behind it, and the whole of that room.
func roomy[T any](list []T, spare ...T) ([]T, []T) {
	whole := slices.Concat(list, spare)
	return whole[:len(list)], whole
}

// scribble writes over a list and its spare room.
func scribble[T any](list []T, x T) {
	list = list[:cap(list)]
	for i := range list {
		list[i] = x
	}
}

// Neither the bags that are handed in nor their spare room change, and the answers are new memory.
func TestP5_1_NothingHandedInChanges(t *testing.T) {
	hold := func(b []api.Item) {
		a, room := roomy(b, n(7, 77, 0), n(8, 78, 0), n(9, 79, 0))
		c, other := roomy(l(n(1, -1, 4), n(-1, 1, 2), n(4, greatest, 0)), n(7, 77, 0))
		was, too := slices.Clone(room), slices.Clone(other)
		answers := [][]api.Item{bag.Plus(a, c), bag.Plus(c, a), bag.Plus(a, nil), bag.Plus(nil, a), bag.Plus(a, l(n(0, 1, 1))), bag.Plus(a, a),
			bag.Minus(a, c), bag.Minus(c, a), bag.Minus(a, nil), bag.Minus(nil, a), bag.Minus(a, l(n(0, 1, 1))), bag.Minus(a, a), bag.There(a)}
		for _, x := range append(slices.Clone(b), n(1, -9, 0), n(2, greatest, 0), n(top, 1, 2)) {
			answers = append(answers, bag.Add(a, x.Rec, x.N), bag.Add(a, x.Rec, -x.N), bag.Add(a, x.Rec, 0), bag.Add(a, x.Rec, top+1))
		}
		bag.Right(a)
		bag.Same(a, c)
		bag.List(a)
		for _, x := range answers {
			scribble(x, n(99, 99, 99))
		}
		if !slices.Equal(room, was) || !slices.Equal(other, too) {
			t.Fatalf("%v became %v; %v became %v", was, room, too, other)
		}
	}
	lists(3, l(n(1, -1, 4), n(-1, 1, 2), n(2, 1, 3), n(3, 2, 1), n(0, 2, 0), n(top+1, 3, 0)), hold)
	for _, b := range rights() {
		hold(b)
	}
}

func TestP5_2_RecordsHandedInDoNotChange(t *testing.T) {
	lists(4, recs(r(3, 1), r(1, 3), r(1, -3), r(least, 0)), func(list []api.Rec) {
		a, room := roomy(list, r(0, 7), r(-5, 7))
		was := slices.Clone(room)
		scribble(bag.Of(a), n(99, 99, 99))
		if !slices.Equal(room, was) {
			t.Fatalf("%v became %v", was, room)
		}
	})
}

// Answers share nothing with one another either.
func TestP5_1_AnswersAreTheirOwn(t *testing.T) {
	b := l(n(2, 1, 2), n(-3, 2, 0))
	calls := []func() []api.Item{
		func() []api.Item { return bag.Add(b, r(5, 5), 1) }, func() []api.Item { return bag.Add(b, r(5, 5), 0) }, func() []api.Item { return bag.Add(b, r(1, 2), top) },
		func() []api.Item { return bag.Plus(b, nil) }, func() []api.Item { return bag.Plus(nil, b) }, func() []api.Item { return bag.Plus(b, l(n(0, 1, 1))) },
		func() []api.Item { return bag.Minus(b, nil) }, func() []api.Item { return bag.Minus(nil, b) }, func() []api.Item { return bag.Minus(b, l(n(0, 1, 1))) },
		func() []api.Item { return bag.There(b) }, func() []api.Item { return bag.Of(recs(r(1, 2), r(1, 1))) },
	}
	for i, call := range calls {
		one, other := call(), call()
		want := slices.Clone(other)
		scribble(one, n(99, 99, 99))
		if !slices.Equal(other, want) {
			t.Errorf("call %d: %v became %v", i, want, other)
		}
	}
	one, _ := bag.List(b)
	other, _ := bag.List(b)
	scribble(one, r(99, 99))
	if !slices.Equal(other, recs(r(1, 2), r(1, 2))) {
		t.Errorf("List: %v", other)
	}
}
