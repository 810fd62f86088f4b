package ts_test

import (
	"math"
	"testing"

	"backwash/api"
	"backwash/ts"
)

const (
	topEpoch = 1 << 20
	topCount = 64
)

// of makes the timestamp of these coordinates, be it right or not.
func of(c ...int) api.Time {
	t := api.Time{D: len(c)}
	copy(t.C[:], c)
	return t
}

// ordinary holds right timestamps of each depth, with each coordinate at its edges and between.
func ordinary() []api.Time {
	var all []api.Time
	level := []api.Time{{}}
	for d := 1; d <= 4; d++ {
		numbers := []int{0, 1, 7, topCount}
		if d == 1 {
			numbers = []int{0, 1, 65, topEpoch}
		} else if d > 2 {
			numbers = []int{0, 1, topCount}
		}
		var next []api.Time
		for _, t := range level {
			for _, n := range numbers {
				x := t
				x.D = d
				x.C[d-1] = n
				next = append(next, x)
			}
		}
		all = append(all, next...)
		level = next
	}
	return all
}

// wrong holds timestamps that are not right: D is none, or one coordinate of a right one is none.
func wrong() []api.Time {
	var all []api.Time
	for _, d := range []int{math.MinInt, -5, -4, -1, 0, 5, 6, 100, math.MaxInt} {
		all = append(all, api.Time{D: d}, api.Time{D: d, C: [4]int{1}}, api.Time{D: d, C: [4]int{1, 2, 3, 4}})
	}
	bases := [][4]int{{}, {1, 2, 3, 4}, {topEpoch, topCount, topCount, topCount}}
	for d := 1; d <= 4; d++ {
		for _, base := range bases {
			right := of(base[:d]...)
			for i := range 4 {
				faults := []int{math.MinInt, -topEpoch, -2, -1, 1, 2, 64, topEpoch, math.MaxInt}
				if i == 0 {
					faults = []int{math.MinInt, -topEpoch, -2, -1, topEpoch + 1, topEpoch + 2, math.MaxInt}
				} else if i < d {
					faults = []int{math.MinInt, -topEpoch, -2, -1, 65, 66, topEpoch, math.MaxInt}
				}
				for _, n := range faults {
					x := right
					x.C[i] = n
					all = append(all, x)
				}
			}
		}
	}
	return all
}

// wrongPairs calls f with all pairs of which one is not right, or both, the same one twice among them.
func wrongPairs(f func(a, b api.Time)) {
	some := []api.Time{of(0), of(5), of(topEpoch), of(0, 0), of(1, 2), of(topEpoch, topCount), of(0, 0, 0), of(1, 2, 3), of(1, 2, 64),
		of(0, 0, 0, 0), of(1, 2, 3, 4), of(topEpoch, topCount, topCount, topCount)}
	bad := wrong()
	for _, w := range bad {
		for _, r := range some {
			f(w, r)
			f(r, w)
		}
		for _, v := range bad {
			f(w, v)
		}
	}
}

func TestP1_1_Right(t *testing.T) {
	for _, x := range ordinary() {
		if !ts.Right(x) {
			t.Errorf("Right(%v) = false", x)
		}
	}
	for _, x := range wrong() {
		if ts.Right(x) {
			t.Errorf("Right(%v) = true", x)
		}
	}
	for _, c := range []struct {
		x    api.Time
		want bool
	}{
		{of(0), true}, {of(topEpoch), true}, {of(topEpoch + 1), false}, {of(-1), false},
		{of(0, 0), true}, {of(0, 64), true}, {of(0, 65), false}, {of(0, -1), false},
		{of(65, 0, 64), true}, {of(65, 64, 65), false}, {of(65, 64, -1), false},
		{of(9, 64, 64, 64), true}, {of(9, 64, 64, 65), false}, {of(9, 64, 64, -1), false},
		{api.Time{}, false}, {api.Time{D: -1}, false}, {api.Time{D: 5}, false},
		{api.Time{D: 1, C: [4]int{3, 1}}, false}, {api.Time{D: 1, C: [4]int{3, -1}}, false},
		{api.Time{D: 2, C: [4]int{3, 1, 1}}, false}, {api.Time{D: 3, C: [4]int{3, 1, 1, 1}}, false}, {api.Time{D: 1, C: [4]int{3, 0, 0, 1}}, false},
	} {
		if got := ts.Right(c.x); got != c.want {
			t.Errorf("Right(%v) = %v", c.x, got)
		}
	}
}

func TestP1_1_Orders(t *testing.T) {
	for _, c := range []struct {
		a, b     api.Time
		le, less bool
	}{
		{of(3), of(3), true, false}, {of(3), of(4), true, true}, {of(4), of(3), false, false},
		{of(0), of(topEpoch), true, true}, {of(topEpoch), of(0), false, false}, {of(topEpoch), of(topEpoch), true, false},
		{of(1, 2), of(1, 3), true, true}, {of(1, 3), of(1, 2), false, false},
		{of(1, 2), of(2, 0), false, true}, {of(2, 0), of(1, 2), false, false},
		{of(1, 9), of(2, 0), false, true}, {of(1, 0), of(2, 9), true, true},
		{of(0, 64), of(topEpoch, 64), true, true}, {of(0, 0), of(0, 64), true, true},
		{of(1), of(1, 0), false, true}, {of(1, 0), of(1), false, false},
		{of(1), of(1, 64, 64, 64), false, true}, {of(1, 0, 0), of(1, 0), false, false}, {of(1, 0), of(1, 0, 0, 0), false, true},
		{of(2), of(1, 64), false, false}, {of(1, 64), of(2), false, true},
		{of(1, 2, 3), of(1, 2, 4), true, true}, {of(1, 2, 3), of(1, 3, 2), false, true}, {of(1, 3, 2), of(1, 2, 3), false, false},
		{of(1, 2, 3), of(1, 3), false, true}, {of(1, 3), of(1, 2, 3), false, false},
		{of(1, 2, 3, 4), of(1, 2, 3, 4), true, false}, {of(1, 2, 3, 4), of(1, 2, 3, 5), true, true}, {of(1, 2, 3, 5), of(1, 2, 3, 4), false, false},
		{of(1, 2, 3, 4), of(1, 2, 4, 3), false, true}, {of(1, 2, 4, 3), of(1, 2, 3, 4), false, false},
		{of(topEpoch, 64, 64, 63), of(topEpoch, 64, 64, 64), true, true},
	} {
		if got := ts.Le(c.a, c.b); got != c.le {
			t.Errorf("Le(%v, %v) = %v", c.a, c.b, got)
		}
		if got := ts.Less(c.a, c.b); got != c.less {
			t.Errorf("Less(%v, %v) = %v", c.a, c.b, got)
		}
	}
}

// slowLe and slowLess say the two orders of right timestamps by their coordinates as lists.
func slowLe(a, b api.Time) bool {
	x, y := a.C[:a.D], b.C[:b.D]
	if len(x) != len(y) {
		return false
	}
	for i := range x {
		if x[i] > y[i] {
			return false
		}
	}
	return true
}

func slowLess(a, b api.Time) bool {
	x, y := a.C[:a.D], b.C[:b.D]
	for len(x) > 0 && len(y) > 0 && x[0] == y[0] {
		x, y = x[1:], y[1:]
	}
	if len(x) == 0 || len(y) == 0 {
		return len(x) < len(y)
	}
	return x[0] < y[0]
}

func TestP1_1_OrdersOfAllPairs(t *testing.T) {
	all := ordinary()
	for _, a := range all {
		for _, b := range all {
			if got := ts.Le(a, b); got != slowLe(a, b) {
				t.Fatalf("Le(%v, %v) = %v", a, b, got)
			}
			if got := ts.Less(a, b); got != slowLess(a, b) {
				t.Fatalf("Less(%v, %v) = %v", a, b, got)
			}
		}
	}
}

func TestP1_1_OrdersOfWrongOnes(t *testing.T) {
	wrongPairs(func(a, b api.Time) {
		if ts.Le(a, b) {
			t.Errorf("Le(%v, %v) = true", a, b)
		}
		if ts.Less(a, b) {
			t.Errorf("Less(%v, %v) = true", a, b)
		}
	})
}

func TestP1_1_JoinMeet(t *testing.T) {
	for _, c := range []struct {
		a, b, join, meet api.Time
	}{
		{of(3), of(5), of(5), of(3)}, {of(5), of(3), of(5), of(3)}, {of(3), of(3), of(3), of(3)},
		{of(0), of(topEpoch), of(topEpoch), of(0)},
		{of(1, 5), of(3, 0), of(3, 5), of(1, 0)}, {of(3, 0), of(1, 5), of(3, 5), of(1, 0)},
		{of(1, 5, 2), of(3, 0, 2), of(3, 5, 2), of(1, 0, 2)}, {of(1, 5, 2), of(1, 5, 9), of(1, 5, 9), of(1, 5, 2)},
		{of(1, 64, 0, 7), of(2, 0, 64, 8), of(2, 64, 64, 8), of(1, 0, 0, 7)}, {of(2, 0, 64, 7), of(1, 64, 0, 8), of(2, 64, 64, 8), of(1, 0, 0, 7)},
		{of(topEpoch, 64, 64, 64), of(0, 0, 0, 0), of(topEpoch, 64, 64, 64), of(0, 0, 0, 0)},
	} {
		if got, ok := ts.Join(c.a, c.b); !ok || got != c.join {
			t.Errorf("Join(%v, %v) = %v, %v", c.a, c.b, got, ok)
		}
		if got, ok := ts.Meet(c.a, c.b); !ok || got != c.meet {
			t.Errorf("Meet(%v, %v) = %v, %v", c.a, c.b, got, ok)
		}
	}
}

// nothing asks that neither Join nor Meet has an answer.
func nothing(t *testing.T, a, b api.Time) {
	t.Helper()
	if got, ok := ts.Join(a, b); ok || got != (api.Time{}) {
		t.Errorf("Join(%v, %v) = %v, %v", a, b, got, ok)
	}
	if got, ok := ts.Meet(a, b); ok || got != (api.Time{}) {
		t.Errorf("Meet(%v, %v) = %v, %v", a, b, got, ok)
	}
}

func TestP1_1_JoinMeetOfUnlikeDepths(t *testing.T) {
	all := ordinary()
	for _, a := range all {
		for _, b := range all {
			if a.D != b.D {
				nothing(t, a, b)
			}
		}
	}
}

func TestP1_1_JoinMeetOfWrongOnes(t *testing.T) {
	wrongPairs(func(a, b api.Time) { nothing(t, a, b) })
}

// moves are the three calls that lead from one timestamp to another one.
func moves() map[string]func(api.Time) (api.Time, bool) {
	return map[string]func(api.Time) (api.Time, bool){"Enter": ts.Enter, "Leave": ts.Leave, "Next": ts.Next}
}

func TestP1_2_Moves(t *testing.T) {
	for _, c := range []struct {
		move    string
		x, want api.Time
	}{
		{"Enter", of(0), of(0, 0)}, {"Enter", of(topEpoch), of(topEpoch, 0)}, {"Enter", of(1, 2), of(1, 2, 0)}, {"Enter", of(1, 2, 3), of(1, 2, 3, 0)},
		{"Enter", of(topEpoch, 64, 64), of(topEpoch, 64, 64, 0)},
		{"Leave", of(1, 2), of(1)}, {"Leave", of(0, 0), of(0)}, {"Leave", of(topEpoch, 64), of(topEpoch)}, {"Leave", of(1, 2, 3), of(1, 2)},
		{"Leave", of(1, 2, 3, 4), of(1, 2, 3)}, {"Leave", of(1, 2, 3, 64), of(1, 2, 3)},
		{"Next", of(0), of(1)}, {"Next", of(64), of(65)}, {"Next", of(topEpoch - 1), of(topEpoch)},
		{"Next", of(1, 0), of(1, 1)}, {"Next", of(1, 63), of(1, 64)}, {"Next", of(topEpoch, 0), of(topEpoch, 1)},
		{"Next", of(1, 64, 63), of(1, 64, 64)}, {"Next", of(1, 2, 3), of(1, 2, 4)}, {"Next", of(1, 64, 64, 63), of(1, 64, 64, 64)}, {"Next", of(1, 2, 3, 4), of(1, 2, 3, 5)},
	} {
		if got, ok := moves()[c.move](c.x); !ok || got != c.want {
			t.Errorf("%s(%v) = %v, %v", c.move, c.x, got, ok)
		}
	}
}

func TestP1_2_NoSuchMove(t *testing.T) {
	for _, c := range []struct {
		move string
		x    api.Time
	}{
		{"Enter", of(0, 0, 0, 0)}, {"Enter", of(1, 1, 1, 1)}, {"Enter", of(topEpoch, 64, 64, 64)},
		{"Leave", of(0)}, {"Leave", of(1)}, {"Leave", of(topEpoch)},
		{"Next", of(topEpoch)}, {"Next", of(0, 64)}, {"Next", of(1, 64)}, {"Next", of(1, 0, 64)}, {"Next", of(0, 0, 0, 64)}, {"Next", of(topEpoch, 64, 64, 64)},
	} {
		if got, ok := moves()[c.move](c.x); ok || got != (api.Time{}) {
			t.Errorf("%s(%v) = %v, %v", c.move, c.x, got, ok)
		}
	}
}

// What the three calls answer is right, and has what the chapter says, at every ordinary timestamp.
func TestP1_2_MovesOfAll(t *testing.T) {
	for _, x := range ordinary() {
		coordinates := x.C[:x.D]
		last := coordinates[x.D-1]
		check := func(move string, can bool, want api.Time) {
			if !can {
				want = api.Time{}
			}
			if got, ok := moves()[move](x); ok != can || got != want || ok && !ts.Right(got) {
				t.Errorf("%s(%v) = %v, %v", move, x, got, ok)
			}
		}
		check("Enter", x.D < 4, of(append(append([]int{}, coordinates...), 0)...))
		check("Leave", x.D > 1, of(coordinates[:x.D-1]...))
		more := append(append([]int{}, coordinates[:x.D-1]...), last+1)
		check("Next", x.D == 1 && last < topEpoch || x.D > 1 && last < topCount, of(more...))
	}
}

func TestP1_2_MovesOfWrongOnes(t *testing.T) {
	for _, x := range wrong() {
		for name, move := range moves() {
			if got, ok := move(x); ok || got != (api.Time{}) {
				t.Errorf("%s(%v) = %v, %v", name, x, got, ok)
			}
		}
	}
}

// small holds those of ordinary whose coordinates are 0, 1, or (the first two) the greatest there is: few enough to go through all triples.
func small() []api.Time {
	var all []api.Time
	for _, x := range ordinary() {
		few := true
		for i, c := range x.C {
			few = few && (c < 2 || i == 0 && c == topEpoch || i == 1 && c == topCount)
		}
		if few {
			all = append(all, x)
		}
	}
	return all
}

func TestP1_3_LeIsAnOrder(t *testing.T) {
	all := small()
	for _, a := range all {
		if !ts.Le(a, a) {
			t.Errorf("not Le(%v, %v)", a, a)
		}
		for _, b := range all {
			if a != b && ts.Le(a, b) && ts.Le(b, a) {
				t.Errorf("Le(%v, %v) both ways", a, b)
			}
			for _, c := range all {
				if ts.Le(a, b) && ts.Le(b, c) && !ts.Le(a, c) {
					t.Errorf("Le(%v, %v), Le(%v, %v), not Le(%v, %v)", a, b, b, c, a, c)
				}
			}
		}
	}
}

func TestP1_3_LessIsOneOrder(t *testing.T) {
	all := small()
	for _, a := range all {
		for _, b := range all {
			if ts.Less(a, b) == ts.Less(b, a) && a != b || ts.Less(a, a) {
				t.Errorf("Less(%v, %v) = %v either way", a, b, ts.Less(a, b))
			}
			if ts.Less(a, b) && ts.Le(b, a) {
				t.Errorf("Less(%v, %v) against Le", a, b)
			}
			if a != b && ts.Le(a, b) && !ts.Less(a, b) {
				t.Errorf("Le(%v, %v), not Less", a, b)
			}
			for _, c := range all {
				if ts.Less(a, b) && ts.Less(b, c) && !ts.Less(a, c) {
					t.Errorf("Less(%v, %v), Less(%v, %v), not Less(%v, %v)", a, b, b, c, a, c)
				}
			}
		}
	}
}

func TestP1_3_JoinIsLeastMeetGreatest(t *testing.T) {
	all := small()
	for _, a := range all {
		for _, b := range all {
			join, ok := ts.Join(a, b)
			meet, also := ts.Meet(a, b)
			if ok != (a.D == b.D) || also != ok {
				t.Fatalf("Join, Meet of %v, %v: %v, %v", a, b, ok, also)
			}
			if !ok {
				continue
			}
			if !ts.Le(a, join) || !ts.Le(b, join) || !ts.Le(meet, a) || !ts.Le(meet, b) {
				t.Errorf("%v, %v: Join %v, Meet %v", a, b, join, meet)
			}
			for _, c := range all {
				if ts.Le(a, c) && ts.Le(b, c) && !ts.Le(join, c) {
					t.Errorf("Join(%v, %v) = %v, but there is %v", a, b, join, c)
				}
				if ts.Le(c, a) && ts.Le(c, b) && !ts.Le(c, meet) {
					t.Errorf("Meet(%v, %v) = %v, but there is %v", a, b, meet, c)
				}
			}
		}
	}
}
