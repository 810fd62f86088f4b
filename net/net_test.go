package net_test

import (
	"math"
	"slices"
	"testing"

	"backwash/api"
	"backwash/net"
)

func TestP14_1_Right(t *testing.T) {
	for _, n := range [][]api.Box{
		nil, l(), l(b(0, 0, 0, 1)), l(b(7, 5, 3, 1, 1, 1)), l(b(math.MaxInt, math.MaxInt, math.MaxInt, 0, -1)),
		l(b(0, 9, 9, 1), b(1, 0, 0, 2)), l(b(0, 0, 9, 1), b(0, 1, 0, 2)), l(b(0, 0, 0, 1), b(0, 0, 1, 2)), l(b(3, 2, 1, 1), b(3, 2, 2, 2), b(3, 3, 0, 3), b(4, 0, 0, 4)),
		l(b(0, 70, 3, 1), b(64, 0, 64, 1), b(math.MaxInt, 0, 0, 1)), l(api.Box{List: []api.Msg{{}, {N: math.MinInt}, {Time: api.Time{D: -1}, Colour: 9}}}),
		l(long(0, 0, 0, api.MaxRoom)), l(long(0, 0, 0, api.MaxRoom-1), long(0, 0, 1, api.MaxRoom), long(1, 0, 0, 1)),
	} {
		if !net.Right(n) {
			t.Errorf("Right(%v) = false", brief(n))
		}
		tells(t, n)
	}
}

func TestP14_1_WrongBoxes(t *testing.T) {
	for i, n := range wrongBoxes() {
		if net.Right(n) {
			t.Errorf("Right(%v) = true, of wrong boxes %d", brief(n), i)
		}
		tells(t, n)
	}
}

// One number of right mailboxes is another one: they stay right just where the chapter says so.
func TestP14_1_RightBoxesWithOneNumberChanged(t *testing.T) {
	base := l(b(0, 1, 1, 1), b(1, 0, 1, 2, 3), b(1, 0, 3, 4), b(1, 2, 0, 5), b(3, 0, 0, 6))
	for i := range base {
		for number := -1; number <= 4; number++ {
			for which := range 4 {
				n := copied(base)
				switch which {
				case 0:
					n[i].Edge = number
				case 1:
					n[i].From = number
				case 2:
					n[i].To = number
				}
				if which == 0 {
					for j := range n[i].List {
						n[i].List[j].Edge = number
					}
				}
				if which == 3 {
					n[i].List[len(n[i].List)-1].Edge = number
				}
				tells(t, n)
			}
		}
	}
}

// Each row of up to four places, in any order.
func TestP14_1_RightOfAllShortRows(t *testing.T) {
	few := l(b(0, 0, 0, 1), b(0, 0, 1, 2), b(0, 1, 0, 3), b(1, 0, 0, 4, 5), b(1, 0, 1, 6), b(2, 0, 0), b(0, -1, 1, 7), api.Box{Edge: 2, List: []api.Msg{m(1, 8)}})
	right := 0
	var grow func(n []api.Box)
	grow = func(n []api.Box) {
		tells(t, n)
		if net.Right(n) {
			right++
		}
		if len(n) < 4 {
			for _, x := range few {
				grow(append(slices.Clone(n), x))
			}
		}
	}
	grow(nil)
	if right != 1+5+10+10+5 {
		t.Errorf("%d rows are right", right)
	}
}

func TestP14_1_Put(t *testing.T) {
	base := l(b(1, 1, 1, 1, 2), b(1, 3, 0, 3), b(3, 0, 0, 4))
	for _, c := range []struct {
		from, to int
		m        api.Msg
		want     []api.Box
	}{
		{1, 1, m(1, 9), l(b(1, 1, 1, 1, 2, 9), base[1], base[2])},
		{3, 0, m(1, 9), l(base[0], b(1, 3, 0, 3, 9), base[2])},
		{0, 0, m(3, 4), l(base[0], base[1], b(3, 0, 0, 4, 4))},
		{5, 5, m(0, 9), l(b(0, 5, 5, 9), base[0], base[1], base[2])},
		{0, 5, m(1, 9), l(b(1, 0, 5, 9), base[0], base[1], base[2])},
		{1, 0, m(1, 9), l(b(1, 1, 0, 9), base[0], base[1], base[2])},
		{1, 2, m(1, 9), l(base[0], b(1, 1, 2, 9), base[1], base[2])},
		{2, 0, m(1, 9), l(base[0], b(1, 2, 0, 9), base[1], base[2])},
		{3, 1, m(1, 9), l(base[0], base[1], b(1, 3, 1, 9), base[2])},
		{9, 9, m(2, 9), l(base[0], base[1], b(2, 9, 9, 9), base[2])},
		{0, 1, m(3, 9), l(base[0], base[1], base[2], b(3, 0, 1, 9))},
		{1, 0, m(3, 9), l(base[0], base[1], base[2], b(3, 1, 0, 9))},
		{0, 0, m(4, 9), l(base[0], base[1], base[2], b(4, 0, 0, 9))},
		{math.MaxInt, math.MaxInt, m(math.MaxInt, 9), l(base[0], base[1], base[2], b(math.MaxInt, math.MaxInt, math.MaxInt, 9))},
		{0, 0, api.Msg{Edge: 4}, l(base[0], base[1], base[2], api.Box{Edge: 4, List: []api.Msg{{Edge: 4}}})},
		{1, 1, api.Msg{Edge: 1, N: -1}, l(api.Box{Edge: 1, From: 1, To: 1, List: append(slices.Clone(base[0].List), api.Msg{Edge: 1, N: -1})}, base[1], base[2])},
	} {
		got, ok := puts(t, base, c.from, c.to, 100, c.m)
		if !ok || !same(got, c.want) {
			t.Errorf("Put(.., %d, %d, 100, %+v) = %v, %t, not %v", c.from, c.to, c.m, brief(got), ok, brief(c.want))
		}
		tells(t, got)
	}
	if got, ok := puts(t, nil, 2, 3, 1, m(4, 5)); !ok || !same(got, l(b(4, 2, 3, 5))) {
		t.Errorf("Put(nil, 2, 3, 1, ..) = %v, %t", brief(got), ok)
	}
}

func TestP14_1_PutWithNumbersBelow0(t *testing.T) {
	for _, n := range [][]api.Box{nil, l(b(0, 0, 0, 1)), l(b(0, 0, 0, 1), b(0, 0, 1, 2), b(1, 1, 1, 3, 4))} {
		for _, edge := range numbers() {
			for _, from := range numbers() {
				for _, to := range numbers() {
					if _, ok := puts(t, n, from, to, 5, m(edge, 7)); ok != (edge >= 0 && from >= 0 && to >= 0) {
						t.Errorf("Put(%v, %d, %d, 5, m(%d, ..)) = %t", brief(n), from, to, edge, ok)
					}
				}
			}
		}
	}
}

// The room is asked of the message's own box, whatever the others have.
func TestP14_1_Room(t *testing.T) {
	n := l(b(0, 0, 0, 1), b(0, 0, 1, 2, 3), b(1, 0, 0, 4, 5, 6, 7))
	for _, room := range []int{math.MinInt, -4096, -1, 0, 1, 2, 3, 4, 5, 6, 4095, 4096, 4097, math.MaxInt} {
		for _, c := range []struct {
			at  place
			had int
		}{{place{0, 0, 0}, 1}, {place{0, 0, 1}, 2}, {place{1, 0, 0}, 4}, {place{0, 1, 0}, 0}, {place{5, 5, 5}, 0}, {place{0, 0, 2}, 0}} {
			got, ok := puts(t, n, c.at.from, c.at.to, room, m(c.at.edge, 8))
			if ok != (c.had < room) {
				t.Errorf("Put(.., %d, ..) to %v = %t, with %d there", room, c.at, ok, c.had)
			}
			if !ok && !same(got, n) {
				t.Errorf("Put(.., %d, ..) to %v = %v", room, c.at, brief(got))
			}
		}
	}
	for _, room := range []int{0, -1, math.MinInt} {
		if got, ok := puts(t, nil, 0, 0, room, m(0, 1)); ok || len(got) != 0 {
			t.Errorf("Put(nil, 0, 0, %d, ..) = %v, %t", room, brief(got), ok)
		}
	}
}

// A box is filled message by message, up to its room and no further; another box still has room.
func TestP14_1_UpToTheRoom(t *testing.T) {
	for _, room := range []int{1, 2, 3, 10} {
		var n []api.Box
		for i := range room + 3 {
			got, ok := puts(t, n, 1, 2, room, m(0, i))
			if ok != (i < room) {
				t.Fatalf("of room %d message %d: %t", room, i, ok)
			}
			n = got
		}
		if net.Len(n, 0, 1, 2) != room {
			t.Errorf("of room %d there are %d", room, net.Len(n, 0, 1, 2))
		}
		if _, ok := puts(t, n, 2, 1, room, m(0, 9)); !ok {
			t.Errorf("of room %d the other way around has none", room)
		}
		n, _, _ = takes(t, n, 0, 1, 2, 0)
		if _, ok := puts(t, n, 1, 2, room, m(0, 9)); !ok {
			t.Errorf("of room %d there is none behind a message that was taken", room)
		}
	}
}

func TestP14_1_MaxRoom(t *testing.T) {
	for _, room := range []int{api.MaxRoom - 1, api.MaxRoom, api.MaxRoom + 1, 2 * api.MaxRoom, math.MaxInt} {
		for _, had := range []int{api.MaxRoom - 2, api.MaxRoom - 1, api.MaxRoom} {
			n := l(b(0, 0, 0, 1), long(1, 0, 0, had), b(2, 0, 0, 2))
			got, ok := puts(t, n, 0, 0, room, m(1, 9))
			if ok != (had < room && had < 4096) {
				t.Errorf("Put with %d there and a room of %d = %t", had, room, ok)
			}
			if !net.Right(got) {
				t.Errorf("Put with %d there and a room of %d is not right", had, room)
			}
			if _, ok := puts(t, n, 0, 1, room, m(1, 9)); !ok {
				t.Errorf("Put beside %d = false", had)
			}
		}
	}
	var n []api.Box
	for i := range api.MaxRoom + 1 {
		got, ok := net.Put(n, 0, 0, math.MaxInt, m(0, i))
		if ok != (i < api.MaxRoom) {
			t.Fatalf("message %d: %t", i, ok)
		}
		n = got
	}
	if !same(n, l(long(0, 0, 0, api.MaxRoom))) {
		t.Error("the box that was filled", brief(n))
	}
}

// To boxes that aren't right nothing is put, and they are answered as they are.
func TestP14_1_PutToWhatIsNotRight(t *testing.T) {
	for i, n := range wrongBoxes() {
		for _, at := range append(near(n), place{9, 9, 9}) {
			got, ok := net.Put(n, at.from, at.to, 10, m(at.edge, 7))
			if ok || !same(got, n) {
				t.Fatalf("Put(%v, %d, %d, 10, ..) = %v, %t, of wrong boxes %d", brief(n), at.from, at.to, brief(got), ok, i)
			}
		}
	}
}

func TestP14_2_TheExample(t *testing.T) {
	n, ok := net.Put(nil, 0, 0, 2, m(0, 1))
	if !ok {
		t.Fatal("a isn't put")
	}
	n, ok = net.Put(n, 0, 0, 2, m(0, 2))
	if !ok {
		t.Fatal("b isn't put")
	}
	n, x, ok := net.Take(n, 0, 0, 0, 1)
	if !ok || x != m(0, 2) {
		t.Fatal("Take 1:", x, ok)
	}
	n, x, ok = net.Take(n, 0, 0, 0, 0)
	if !ok || x != m(0, 1) || len(n) != 0 {
		t.Fatal("Take 0:", x, ok, n)
	}
}

func TestP14_2_Take(t *testing.T) {
	n := l(b(0, 0, 0, 1), b(0, 0, 1, 2, 3), b(1, 4, 0, 4, 5, 6), b(1, 4, 2, 7), b(3, 0, 0, 8))
	for _, c := range []struct {
		edge, from, to, i int
		m                 api.Msg
		want              []api.Box
	}{
		{0, 0, 0, 0, m(0, 1), l(n[1], n[2], n[3], n[4])},
		{0, 0, 1, 0, m(0, 2), l(n[0], b(0, 0, 1, 3), n[2], n[3], n[4])},
		{0, 0, 1, 1, m(0, 3), l(n[0], b(0, 0, 1, 2), n[2], n[3], n[4])},
		{1, 4, 0, 0, m(1, 4), l(n[0], n[1], b(1, 4, 0, 5, 6), n[3], n[4])},
		{1, 4, 0, 1, m(1, 5), l(n[0], n[1], b(1, 4, 0, 4, 6), n[3], n[4])},
		{1, 4, 0, 2, m(1, 6), l(n[0], n[1], b(1, 4, 0, 4, 5), n[3], n[4])},
		{1, 4, 2, 0, m(1, 7), l(n[0], n[1], n[2], n[4])},
		{3, 0, 0, 0, m(3, 8), l(n[0], n[1], n[2], n[3])},
	} {
		got, x, ok := takes(t, n, c.edge, c.from, c.to, c.i)
		if !ok || x != c.m || !same(got, c.want) {
			t.Errorf("Take(.., %d, %d, %d, %d) = %v, %+v, %t", c.edge, c.from, c.to, c.i, brief(got), x, ok)
		}
		tells(t, got)
	}
}

func TestP14_2_TakeWhatIsNotThere(t *testing.T) {
	n := l(b(0, 0, 0, 1), b(0, 0, 1, 2, 3), b(1, 4, 0, 4, 5, 6), b(3, 0, 0, 8))
	for _, c := range []struct{ edge, from, to, many int }{{0, 0, 0, 1}, {0, 0, 1, 2}, {1, 4, 0, 3}, {3, 0, 0, 1}, {0, 1, 0, 0}, {0, 0, 2, 0}, {1, 0, 4, 0}, {2, 0, 0, 0}, {4, 0, 0, 0}, {3, 0, 1, 0}, {-1, 0, 0, 0}, {0, -1, 0, 0}, {0, 0, -1, 0}, {math.MinInt, math.MinInt, math.MinInt, 0}} {
		for _, i := range []int{math.MinInt, -4096, -3, -2, -1, 0, 1, 2, 3, 4, 4096, math.MaxInt} {
			got, x, ok := takes(t, n, c.edge, c.from, c.to, i)
			if ok != (0 <= i && i < c.many) {
				t.Errorf("Take(.., %d, %d, %d, %d) = %t", c.edge, c.from, c.to, i, ok)
			}
			if !ok && (x != api.Msg{} || !same(got, n)) {
				t.Errorf("Take(.., %d, %d, %d, %d) = %v, %+v, %t", c.edge, c.from, c.to, i, brief(got), x, ok)
			}
		}
	}
	for _, i := range numbers() {
		if got, x, ok := net.Take(nil, 0, 0, 0, i); ok || x != (api.Msg{}) || len(got) != 0 {
			t.Errorf("Take(nil, 0, 0, 0, %d) = %v, %+v, %t", i, brief(got), x, ok)
		}
	}
}

// Of boxes that aren't right nothing is taken, told or counted.
func TestP14_2_OfWhatIsNotRight(t *testing.T) {
	for i, n := range wrongBoxes() {
		for _, at := range near(n) {
			for _, j := range []int{-1, 0, 1} {
				if got, x, ok := net.Take(n, at.edge, at.from, at.to, j); ok || x != (api.Msg{}) || !same(got, n) {
					t.Fatalf("Take(%v, %v, %d) = %v, %+v, %t, of wrong boxes %d", brief(n), at, j, brief(got), x, ok, i)
				}
			}
			if many := net.Len(n, at.edge, at.from, at.to); many != 0 {
				t.Fatalf("Len(%v, %v) = %d, of wrong boxes %d", brief(n), at, many, i)
			}
		}
		if all := net.All(n); len(all) != 0 {
			t.Fatalf("All(%v) = %d messages, of wrong boxes %d", brief(n), len(all), i)
		}
	}
}

func TestP14_2_Len(t *testing.T) {
	n := l(b(0, 0, 0, 1), b(0, 0, 1, 2, 3), b(1, 4, 0, 4, 5, 6), long(3, 0, 0, api.MaxRoom))
	for _, c := range []struct{ edge, from, to, many int }{{0, 0, 0, 1}, {0, 0, 1, 2}, {1, 4, 0, 3}, {3, 0, 0, api.MaxRoom}, {0, 1, 0, 0}, {0, 0, 2, 0}, {1, 0, 4, 0}, {2, 0, 0, 0}, {4, 0, 0, 0}, {-1, 0, 0, 0}, {0, -1, 0, 0}, {0, 0, -1, 0}} {
		if many := net.Len(n, c.edge, c.from, c.to); many != c.many {
			t.Errorf("Len(.., %d, %d, %d) = %d, not %d", c.edge, c.from, c.to, many, c.many)
		}
		if many := net.Len(nil, c.edge, c.from, c.to); many != 0 {
			t.Errorf("Len(nil, %d, %d, %d) = %d", c.edge, c.from, c.to, many)
		}
	}
	for _, edge := range numbers() {
		for _, from := range numbers() {
			for _, to := range numbers() {
				if many, want := net.Len(n[:3], edge, from, to), len(slowAt(n[:3], place{edge, from, to})); many != want {
					t.Errorf("Len(.., %d, %d, %d) = %d, not %d", edge, from, to, many, want)
				}
			}
		}
	}
}

func TestP14_2_All(t *testing.T) {
	n := l(b(0, 0, 1, 5, 2), b(0, 1, 0, 9, 9), b(2, 0, 0, 1, 3, 0))
	if all := net.All(n); !slices.Equal(all, []api.Msg{m(0, 5), m(0, 2), m(0, 9), m(0, 9), m(2, 1), m(2, 3), m(2, 0)}) {
		t.Error(all)
	}
	for _, n := range [][]api.Box{nil, l()} {
		if all := net.All(n); len(all) != 0 {
			t.Error(all)
		}
	}
	tells(t, l(long(0, 0, 0, api.MaxRoom), long(1, 0, 0, api.MaxRoom), b(2, 0, 0, 7)))
}
