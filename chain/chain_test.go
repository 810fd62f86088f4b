package chain_test

import (
	"math"
	"slices"
	"testing"

	"backwash/api"
	"backwash/chain"
	"backwash/ts"
)

const (
	topEpoch = 1 << 20
	topCount = 64
)

// of makes the timestamp of these coordinates, be it right or not.
func of(c ...int) api.Time {
	t := api.Time{D: len(c)}
	copy(t.C[:], c)
	return t
}

// l is a list of timestamps.
func l(t ...api.Time) []api.Time { return t }

// few are right timestamps of each depth, some before others and some not.
func few() []api.Time {
	return l(of(0), of(1), of(topEpoch), of(0, 1), of(1, 0), of(0, topCount), of(1, 1), of(0, 0, 2), of(0, 1, 1), of(0, 1, 0, 3), of(0, 0, 2, 0))
}

// wrong are timestamps that are not right.
func wrong() []api.Time {
	return l(api.Time{}, api.Time{D: -1}, api.Time{D: 5}, api.Time{D: math.MinInt}, api.Time{D: math.MaxInt}, api.Time{D: 5, C: [4]int{1, 1, 1, 1}},
		of(-1), of(topEpoch+1), of(math.MinInt), of(math.MaxInt), of(0, -1), of(0, topCount+1), of(0, 0, topCount+1), of(0, 0, 0, topCount+1),
		of(0, 0, 0, math.MinInt), api.Time{D: 1, C: [4]int{0, 1}}, api.Time{D: 2, C: [4]int{0, 0, 0, 1}}, api.Time{D: 3, C: [4]int{0, 0, 0, -1}})
}

// lists calls f with each list of up to n of the timestamps, in every order and with the same one more than once.
func lists(n int, of []api.Time, f func(list []api.Time)) {
	var grow func(list []api.Time)
	grow = func(list []api.Time) {
		f(list)
		if len(list) < n {
			for _, t := range of {
				grow(append(slices.Clone(list), t))
			}
		}
	}
	grow(nil)
}

// mixed are right timestamps with two that are not, few enough for all lists of four.
func mixed() []api.Time {
	return l(of(0), of(1), of(0, 2), of(1, 0), of(1, 2), of(2, 1), of(0, 1, 0), api.Time{}, of(0, topCount+1))
}

// slowOf is Of, word by word: those for which no other one comes at or before; each once; then into the one order by swaps.
func slowOf(list []api.Time) []api.Time {
	var lowest []api.Time
	for _, t := range list {
		if !ts.Right(t) || slices.Contains(lowest, t) {
			continue
		}
		low := true
		for _, x := range list {
			if x != t && ts.Le(x, t) {
				low = false
			}
		}
		if low {
			lowest = append(lowest, t)
		}
	}
	for range lowest {
		for i := 1; i < len(lowest); i++ {
			if ts.Less(lowest[i], lowest[i-1]) {
				lowest[i], lowest[i-1] = lowest[i-1], lowest[i]
			}
		}
	}
	return lowest
}

// slowRight says whether a list is a chain, pair by pair.
func slowRight(c []api.Time) bool {
	for i, t := range c {
		if !ts.Right(t) {
			return false
		}
		for j, x := range c {
			if i != j && ts.Le(x, t) || i < j && !ts.Less(t, x) {
				return false
			}
		}
	}
	return true
}

// slowCovers says whether one of a list is at or before a timestamp.
func slowCovers(c []api.Time, t api.Time) bool {
	for _, x := range c {
		if ts.Right(x) && ts.Right(t) && ts.Le(x, t) {
			return true
		}
	}
	return false
}

func TestP3_1_Right(t *testing.T) {
	for _, c := range []struct {
		list []api.Time
		want bool
	}{
		{nil, true}, {l(), true}, {l(of(0)), true}, {l(of(topEpoch, topCount, topCount, topCount)), true},
		{l(of(0), of(1, 2), of(2, 0)), true}, {l(of(1, 2), of(2, 0)), true}, {l(of(0, 5), of(1, 4), of(2, 3), of(9, 0)), true},
		{l(of(0), of(0, 0), of(0, 0, 0), of(0, 0, 0, 0)), true}, {l(of(0, 3), of(0, 2, 9), of(1, 2)), false}, {l(of(0, 2, 9), of(0, 3), of(1, 2)), true},
		{l(of(2, 0), of(1, 2)), false}, {l(of(0, 0), of(0)), false}, {l(of(0), of(2, 0), of(1, 2)), false}, {l(of(1, 2), of(2, 0), of(0)), false},
		{l(of(1), of(2)), false}, {l(of(2), of(1)), false}, {l(of(1, 2), of(1, 3)), false}, {l(of(0, 5), of(1, 4), of(2, 4)), false}, {l(of(0, 2), of(1, 1), of(5, 2)), false},
		{l(of(3), of(3)), false}, {l(of(0), of(1, 2), of(1, 2)), false}, {l(of(0), of(1, 2), of(0)), false},
		{l(api.Time{}), false}, {l(api.Time{}, of(0)), false}, {l(of(0), api.Time{}), false}, {l(of(0), of(1, topCount+1)), false},
		{l(of(1, 2), of(2, -1)), false}, {l(of(0), of(topEpoch+1, 0)), false}, {l(api.Time{}, api.Time{}), false}, {l(of(0), api.Time{D: 2, C: [4]int{1, 2, 3}}), false},
	} {
		if got := chain.Right(c.list); got != c.want {
			t.Errorf("Right(%v) = %v", c.list, got)
		}
	}
	for _, w := range wrong() {
		if chain.Right(l(w)) || chain.Right(l(w, of(topEpoch))) || chain.Right(l(of(0), w)) {
			t.Errorf("a list with %v is a chain", w)
		}
	}
	lists(4, mixed(), func(list []api.Time) {
		if got := chain.Right(list); got != slowRight(list) {
			t.Fatalf("Right(%v) = %v", list, got)
		}
	})
}

func TestP3_1_Of(t *testing.T) {
	for _, c := range []struct{ list, want []api.Time }{
		{nil, nil}, {l(), nil}, {l(of(4)), l(of(4))}, {l(of(1, 2), of(2, 0), of(1, 3), of(0)), l(of(0), of(1, 2), of(2, 0))},
		{l(of(3), of(3)), l(of(3))}, {l(of(3), of(3), of(3)), l(of(3))}, {l(of(1, 2), of(2, 0), of(1, 2), of(2, 0)), l(of(1, 2), of(2, 0))},
		{l(of(2), of(1)), l(of(1))}, {l(of(1), of(2)), l(of(1))}, {l(of(2, 0), of(1, 2)), l(of(1, 2), of(2, 0))},
		{l(of(2, 1), of(1, 2), of(1, 1)), l(of(1, 1))}, {l(of(1, 1), of(1, 2), of(2, 1)), l(of(1, 1))}, {l(of(1, 2), of(1, 1), of(0, 2)), l(of(0, 2), of(1, 1))},
		{l(of(0, 0, 0, 0), of(0, 0, 0), of(0, 0), of(0)), l(of(0), of(0, 0), of(0, 0, 0), of(0, 0, 0, 0))},
		{l(of(5, 0), of(5), of(6), of(5, 1), of(4, 1, 1), of(4)), l(of(4), of(4, 1, 1), of(5, 0))},
		{l(of(9, 0), of(2, 3), of(1, 4), of(0, 5), of(3, 3), of(1, 5)), l(of(0, 5), of(1, 4), of(2, 3), of(9, 0))},
		{l(of(topEpoch, 0), of(0, topCount), of(topEpoch, topCount)), l(of(0, topCount), of(topEpoch, 0))},
		{l(of(0, 0, 3), of(0, 1, 2), of(0, 3, 0), of(0, 2, 2)), l(of(0, 0, 3), of(0, 1, 2), of(0, 3, 0))},
		{l(api.Time{}), nil}, {l(api.Time{}, of(1, 65), of(4)), l(of(4))}, {l(of(4), api.Time{}, of(-1)), l(of(4))}, {l(of(1, -1), of(1, 0)), l(of(1, 0))},
		{wrong(), nil}, {append(wrong(), of(7)), l(of(7))}, {append(l(of(7), of(0, 3)), wrong()...), l(of(0, 3), of(7))},
	} {
		if got := chain.Of(c.list); !slices.Equal(got, c.want) {
			t.Errorf("Of(%v) = %v, not %v", c.list, got, c.want)
		}
	}
}

func TestP3_1_OfAllLists(t *testing.T) {
	lists(4, mixed(), func(list []api.Time) {
		if got := chain.Of(list); !slices.Equal(got, slowOf(list)) {
			t.Fatalf("Of(%v) = %v", list, got)
		}
	})
}

func TestP3_1_Put(t *testing.T) {
	for _, c := range []struct {
		list []api.Time
		put  api.Time
		want []api.Time
	}{
		{nil, of(3), l(of(3))}, {nil, api.Time{}, nil}, {nil, of(0, 65), nil}, {l(of(1)), of(2), l(of(1))}, {l(of(2)), of(1), l(of(1))}, {l(of(2)), of(2), l(of(2))},
		{l(of(1, 2)), of(0, 3), l(of(0, 3), of(1, 2))}, {l(of(0, 3)), of(1, 2), l(of(0, 3), of(1, 2))}, {l(of(0, 3), of(1, 2)), of(0, 2), l(of(0, 2))},
		{l(of(0, 3), of(2, 1)), of(1, 2), l(of(0, 3), of(1, 2), of(2, 1))}, {l(of(0, 3), of(2, 1)), of(1, 1), l(of(0, 3), of(1, 1))},
		{l(of(0, 3), of(1, 2)), of(1, 2, 0), l(of(0, 3), of(1, 2), of(1, 2, 0))}, {l(of(0, 3)), of(0), l(of(0), of(0, 3))},
		{l(of(0, 3), of(1, 2)), api.Time{}, l(of(0, 3), of(1, 2))}, {l(of(0, 3), of(1, 2)), of(0, -1), l(of(0, 3), of(1, 2))},
		{l(of(2), api.Time{}, of(1), of(5)), of(3), l(of(1))}, {l(of(2), api.Time{}, of(1), of(5)), of(-3), l(of(1))}, {l(of(3), of(3)), of(3), l(of(3))},
	} {
		if got := chain.Put(c.list, c.put); !slices.Equal(got, c.want) {
			t.Errorf("Put(%v, %v) = %v, not %v", c.list, c.put, got, c.want)
		}
	}
	for _, w := range wrong() {
		if got := chain.Put(l(of(1, 2), of(2, 0)), w); !slices.Equal(got, l(of(1, 2), of(2, 0))) {
			t.Errorf("with %v put: %v", w, got)
		}
	}
	lists(3, mixed(), func(list []api.Time) {
		for _, x := range mixed() {
			if got := chain.Put(list, x); !slices.Equal(got, slowOf(append(slices.Clone(list), x))) {
				t.Fatalf("Put(%v, %v) = %v", list, x, got)
			}
		}
	})
}

func TestP3_1_All(t *testing.T) {
	for _, c := range []struct{ a, b, want []api.Time }{
		{nil, nil, nil}, {nil, l(of(1)), l(of(1))}, {l(of(1)), nil, l(of(1))}, {l(of(1)), l(of(1)), l(of(1))}, {l(of(1)), l(of(2)), l(of(1))}, {l(of(2)), l(of(1)), l(of(1))},
		{l(of(0, 3), of(2, 1)), l(of(1, 2), of(3, 0)), l(of(0, 3), of(1, 2), of(2, 1), of(3, 0))}, {l(of(0, 3), of(2, 1)), l(of(0, 0)), l(of(0, 0))},
		{l(of(0)), l(of(0, 0)), l(of(0), of(0, 0))}, {l(of(0, 0)), l(of(0)), l(of(0), of(0, 0))}, {l(of(1, 2)), l(of(0, 3), of(1, 1)), l(of(0, 3), of(1, 1))},
		{l(of(2), of(1)), l(of(3), of(3)), l(of(1))}, {l(api.Time{}), l(of(0, 65)), nil}, {l(api.Time{}, of(4)), l(of(5), of(-1)), l(of(4))}, {nil, wrong(), nil}, {wrong(), l(of(0)), l(of(0))},
	} {
		if got := chain.All(c.a, c.b); !slices.Equal(got, c.want) {
			t.Errorf("All(%v, %v) = %v, not %v", c.a, c.b, got, c.want)
		}
	}
	lists(2, mixed(), func(a []api.Time) {
		lists(2, mixed(), func(b []api.Time) {
			if got := chain.All(a, b); !slices.Equal(got, slowOf(slices.Concat(a, b))) {
				t.Fatalf("All(%v, %v) = %v", a, b, got)
			}
		})
	})
}

func TestP3_1_Covers(t *testing.T) {
	for _, c := range []struct {
		list []api.Time
		t    api.Time
		want bool
	}{
		{nil, of(0), false}, {nil, api.Time{}, false}, {l(of(3)), of(3), true}, {l(of(3)), of(4), true}, {l(of(3)), of(2), false}, {l(of(3)), of(3, 0), false}, {l(of(3, 0)), of(3), false},
		{l(of(0, 3), of(1, 2)), of(0, 4), true}, {l(of(0, 3), of(1, 2)), of(0, 2), false}, {l(of(0, 3), of(1, 2)), of(1, 2), true}, {l(of(0, 3), of(1, 2)), of(9, 1), false},
		{l(of(0, 3), of(1, 2)), of(5), false}, {l(of(0), of(0, 3), of(0, 0, 1)), of(0, 0, 1), true}, {l(of(0), of(0, 3), of(0, 0, 1)), of(9, 9, 0), false},
		{l(of(5), of(3)), of(4), true}, {l(of(3), of(5)), of(4), true}, {l(of(3), of(3)), of(3), true}, {l(of(topEpoch, topCount)), of(topEpoch, topCount), true},
		{l(api.Time{}, of(3)), of(3), true}, {l(of(3), api.Time{}), of(3), true}, {l(of(-1)), of(3), false}, {l(api.Time{D: 1, C: [4]int{0, 1}}), of(3), false},
	} {
		if got := chain.Covers(c.list, c.t); got != c.want {
			t.Errorf("Covers(%v, %v) = %v", c.list, c.t, got)
		}
	}
	for _, w := range wrong() {
		for _, x := range append(wrong(), few()...) {
			if chain.Covers(l(w), x) || chain.Covers(append(few(), w), w) {
				t.Errorf("Covers with %v, of %v", w, x)
			}
		}
	}
	lists(3, mixed(), func(list []api.Time) {
		for _, x := range append(mixed(), few()...) {
			if got := chain.Covers(list, x); got != slowCovers(list, x) {
				t.Fatalf("Covers(%v, %v) = %v", list, x, got)
			}
		}
	})
}

// roomy is a copy with spare room behind it, and the whole of that room.
func roomy(list []api.Time) ([]api.Time, []api.Time) {
	whole := slices.Concat(list, l(of(77), of(78), of(79)))
	return whole[:len(list)], whole
}

// Neither the lists that are handed in nor their spare room change, and the answers are new memory.
func TestP3_1_NothingHandedInChanges(t *testing.T) {
	lists(3, mixed(), func(list []api.Time) {
		a, room := roomy(list)
		b, other := roomy(l(of(1, 1), of(0), of(0)))
		was, too := slices.Clone(room), slices.Clone(other)
		answers := [][]api.Time{chain.Of(a), chain.Put(a, of(0, 1)), chain.Put(a, api.Time{}), chain.All(a, b), chain.All(b, a), chain.All(a, nil), chain.All(nil, a)}
		chain.Right(a)
		chain.Covers(a, of(1, 1))
		for _, x := range answers {
			x = x[:cap(x)]
			for i := range x {
				x[i] = of(99)
			}
		}
		if !slices.Equal(room, was) || !slices.Equal(other, too) {
			t.Fatalf("%v became %v; %v became %v", was, room, too, other)
		}
	})
}

func TestP3_2_OfIsAChainThatCoversTheSame(t *testing.T) {
	lists(4, mixed(), func(list []api.Time) {
		c := chain.Of(list)
		if !chain.Right(c) || !slowRight(c) {
			t.Fatalf("Of(%v) = %v is no chain", list, c)
		}
		for _, x := range append(mixed(), few()...) {
			if chain.Covers(c, x) != slowCovers(list, x) {
				t.Fatalf("Of(%v) = %v, and %v", list, c, x)
			}
		}
	})
}

func TestP3_2_AChainsOwn(t *testing.T) {
	met := 0
	lists(3, append(few(), mixed()...), func(list []api.Time) {
		got := chain.Of(list)
		if slices.Equal(got, list) != slowRight(list) || !slices.Equal(chain.Of(got), got) {
			t.Fatalf("Of(%v) = %v", list, got)
		}
		if slowRight(list) && len(list) == 3 {
			met++
		}
	})
	if met == 0 {
		t.Error("no chain was met")
	}
}

func TestP3_2_TheOrderOfPuttingDoesNotMatter(t *testing.T) {
	lists(4, mixed(), func(list []api.Time) {
		var ahead, back []api.Time
		for i, x := range list {
			ahead = chain.Put(ahead, x)
			back = chain.Put(back, list[len(list)-1-i])
		}
		want := chain.Of(list)
		if !slices.Equal(ahead, want) || !slices.Equal(back, want) {
			t.Fatalf("%v put one by one: %v, from behind: %v", list, ahead, back)
		}
		for i := range list {
			if got := chain.All(list[i:], list[:i]); !slices.Equal(got, want) {
				t.Fatalf("%v parted at %d: %v", list, i, got)
			}
		}
	})
}

// A long list, of which many are before none.
func TestP3_2_LongLists(t *testing.T) {
	var list, want []api.Time
	for i := range 20000 {
		list = append(list, of(topEpoch-i%topCount, i%topCount), of(topEpoch, i%topCount))
	}
	for i := range topCount {
		want = append(want, of(topEpoch-topCount+1+i, topCount-1-i))
	}
	if got := chain.Of(list); !slices.Equal(got, want) || !chain.Right(got) {
		t.Errorf("%v", got)
	}
}
