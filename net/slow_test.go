package net_test

import (
	"math"
	"slices"
	"testing"

	"backwash/api"
	"backwash/net"
)

// place is where a message lies: the box of an edge from one worker to another one.
type place struct{ edge, from, to int }

// laid is a message at its place.
type laid struct {
	at place
	m  api.Msg
}

// m is a message of an edge that is unlike the others by its number.
func m(edge, number int) api.Msg {
	return api.Msg{Edge: edge, Time: api.Time{D: 1, C: [4]int{number % 5}}, Rec: api.Rec{K: int64(number), V: -1}, N: number, Colour: number % 2}
}

// b is the box of an edge from one worker to another one, with messages of these numbers.
func b(edge, from, to int, numbers ...int) api.Box {
	x := api.Box{Edge: edge, From: from, To: to}
	for _, number := range numbers {
		x.List = append(x.List, m(edge, number))
	}
	return x
}

// l is a list of boxes.
func l(boxes ...api.Box) []api.Box { return boxes }

// long is a box with many messages.
func long(edge, from, to, many int) api.Box {
	x := api.Box{Edge: edge, From: from, To: to}
	for i := range many {
		x.List = append(x.List, m(edge, i))
	}
	return x
}

// numbers of workers, edges and the room, as they may be and as they may not.
func numbers() []int {
	return []int{0, 1, 2, 3, 4, 63, 64, 65, 1000, math.MaxInt, -1, -2, -1000, math.MinInt}
}

// wrongBoxes are mailboxes that are not right, by each of the reasons.
func wrongBoxes() [][]api.Box {
	return [][]api.Box{
		l(b(1, 0, 0, 1), b(0, 0, 0, 2)), l(b(1, 0, 0, 1), b(0, 1, 1, 2)), l(b(0, 1, 0, 1), b(0, 0, 0, 2)), l(b(0, 1, 0, 1), b(0, 0, 1, 2)), l(b(0, 0, 1, 1), b(0, 0, 0, 2)),
		l(b(0, 0, 0, 1), b(2, 0, 0, 2), b(1, 0, 0, 3)), l(b(0, 0, 0, 1), b(1, 2, 0, 2), b(1, 1, 2, 3), b(2, 0, 0, 4)), l(b(0, 0, 1, 1), b(1, 1, 3, 2), b(1, 1, 2, 3), b(1, 2, 0, 4)),
		l(b(0, 0, 0, 1), b(0, 0, 0, 2)), l(b(0, 0, 0, 1), b(0, 0, 0, 1)), l(b(0, 0, 0, 1), b(1, 2, 3, 2), b(1, 2, 3, 3), b(2, 0, 0, 4)), l(b(0, 0, 0, 1), b(1, 0, 0, 2), b(0, 0, 0, 3)),
		l(b(0, 0, 0)), l(b(0, 0, 0, 1), b(1, 0, 0)), l(b(0, 0, 0), b(1, 0, 0, 1)), l(b(0, 0, 0, 1), b(1, 0, 0), b(2, 0, 0, 2)), l(api.Box{Edge: 1, List: []api.Msg{}}),
		l(b(-1, 0, 0, 1)), l(b(0, -1, 0, 1)), l(b(0, 0, -1, 1)), l(b(-1, -1, -1, 1)), l(b(math.MinInt, 0, 0, 1)), l(b(0, math.MinInt, 0, 1)), l(b(0, 0, math.MinInt, 1)),
		l(b(-1, 0, 0, 1), b(0, 0, 0, 2)), l(b(0, -1, 0, 1), b(0, 0, 0, 2)), l(b(0, 0, 0, 1), b(1, -1, 0, 2), b(2, 0, 0, 3)), l(b(0, 0, 0, 1), b(1, 0, -1, 2)),
		l(long(0, 0, 0, api.MaxRoom+1)), l(b(0, 0, 0, 1), long(1, 0, 0, api.MaxRoom+1), b(2, 0, 0, 2)), l(long(3, 2, 1, 2*api.MaxRoom)),
		l(api.Box{Edge: 1, List: []api.Msg{m(0, 1)}}), l(api.Box{Edge: 0, List: []api.Msg{m(1, 1)}}), l(api.Box{Edge: 1, List: []api.Msg{m(1, 1), m(2, 2), m(1, 3)}}), l(api.Box{Edge: 1, List: []api.Msg{m(1, 1), m(-1, 2)}}),
		l(b(0, 0, 0, 1), api.Box{Edge: 1, List: []api.Msg{m(0, 2)}}), l(api.Box{Edge: 0, List: []api.Msg{m(0, 1), m(1, 2)}}, b(1, 0, 0, 3)), l(api.Box{Edge: -1, List: []api.Msg{m(0, 1)}}),
	}
}

// slowRight asks of each box all that the chapter says, and of each two of them how they stand.
func slowRight(n []api.Box) bool {
	for i, x := range n {
		if x.Edge < 0 || x.From < 0 || x.To < 0 || len(x.List) == 0 || len(x.List) > 4096 {
			return false
		}
		for _, m := range x.List {
			if m.Edge != x.Edge {
				return false
			}
		}
		for _, y := range n[:i] {
			if !ahead(placeOf(y), placeOf(x)) {
				return false
			}
		}
	}
	return true
}

// placeOf a box.
func placeOf(x api.Box) place { return place{x.Edge, x.From, x.To} }

// ahead: does the one place stand ahead of the other?
func ahead(a, b place) bool {
	if a.edge != b.edge {
		return a.edge < b.edge
	}
	if a.from != b.from {
		return a.from < b.from
	}
	return a.to < b.to
}

// unpacked are the messages of all boxes, each with its place.
func unpacked(n []api.Box) []laid {
	var all []laid
	for _, x := range n {
		for _, m := range x.List {
			all = append(all, laid{placeOf(x), m})
		}
	}
	return all
}

// packed are mailboxes of messages that come in this order: one after the other the place is picked that no other one is ahead of.
func packed(all []laid) []api.Box {
	var n []api.Box
	for len(all) > 0 {
		least := all[0].at
		for _, x := range all {
			if ahead(x.at, least) {
				least = x.at
			}
		}
		x := api.Box{Edge: least.edge, From: least.from, To: least.to}
		var rest []laid
		for _, y := range all {
			if y.at == least {
				x.List = append(x.List, y.m)
			} else {
				rest = append(rest, y)
			}
		}
		n, all = append(n, x), rest
	}
	return n
}

// slowAt are the messages of one place.
func slowAt(n []api.Box, at place) []api.Msg {
	var list []api.Msg
	if slowRight(n) {
		for _, x := range unpacked(n) {
			if x.at == at {
				list = append(list, x.m)
			}
		}
	}
	return list
}

// slowPut packs all messages anew, with one more behind them.
func slowPut(n []api.Box, from, to, room int, m api.Msg) ([]api.Box, bool) {
	at := place{m.Edge, from, to}
	if !slowRight(n) || from < 0 || to < 0 || m.Edge < 0 {
		return n, false
	}
	if had := len(slowAt(n, at)); had >= room || had >= 4096 {
		return n, false
	}
	return packed(append(unpacked(n), laid{at, m})), true
}

// slowTake packs all messages anew, but for one.
func slowTake(n []api.Box, edge, from, to, i int) ([]api.Box, api.Msg, bool) {
	if !slowRight(n) {
		return n, api.Msg{}, false
	}
	var rest []laid
	var taken []api.Msg
	seen := 0
	for _, x := range unpacked(n) {
		if x.at == (place{edge, from, to}) {
			seen++
			if seen-1 == i {
				taken = append(taken, x.m)
				continue
			}
		}
		rest = append(rest, x)
	}
	if len(taken) == 0 {
		return n, api.Msg{}, false
	}
	return packed(rest), taken[0], true
}

// slowAll are the messages without their places.
func slowAll(n []api.Box) []api.Msg {
	var all []api.Msg
	if slowRight(n) {
		for _, x := range unpacked(n) {
			all = append(all, x.m)
		}
	}
	return all
}

// same mailboxes, with nil as nothing?
func same(a, b []api.Box) bool {
	return slices.EqualFunc(a, b, func(x, y api.Box) bool {
		return placeOf(x) == placeOf(y) && slices.Equal(x.List, y.List)
	})
}

// brief tells of mailboxes the places, and of each the numbers of its first messages.
func brief(n []api.Box) [][]int {
	var told [][]int
	for _, x := range n[:min(len(n), 12)] {
		row := []int{x.Edge, x.From, x.To}
		for _, m := range x.List[:min(len(x.List), 8)] {
			row = append(row, m.N)
		}
		told = append(told, row)
	}
	return told
}

// puts says so if Put does not answer as the slow one, and answers what it answers.
func puts(t *testing.T, n []api.Box, from, to, room int, x api.Msg) ([]api.Box, bool) {
	t.Helper()
	got, ok := net.Put(n, from, to, room, x)
	want, wanted := slowPut(n, from, to, room, x)
	if ok != wanted || !same(got, want) {
		t.Fatalf("Put(%v, %d, %d, %d, %+v) = %v, %t, not %v, %t", brief(n), from, to, room, x, brief(got), ok, brief(want), wanted)
	}
	return got, ok
}

// takes says so if Take does not answer as the slow one, and answers what it answers.
func takes(t *testing.T, n []api.Box, edge, from, to, i int) ([]api.Box, api.Msg, bool) {
	t.Helper()
	got, x, ok := net.Take(n, edge, from, to, i)
	want, y, wanted := slowTake(n, edge, from, to, i)
	if ok != wanted || x != y || !same(got, want) {
		t.Fatalf("Take(%v, %d, %d, %d, %d) = %v, %+v, %t, not %v, %+v, %t", brief(n), edge, from, to, i, brief(got), x, ok, brief(want), y, wanted)
	}
	return got, x, ok
}

// tells says so if Right, All or, at each place near to its own, Len does not answer as the slow one.
func tells(t *testing.T, n []api.Box) {
	t.Helper()
	if got, want := net.Right(n), slowRight(n); got != want {
		t.Fatalf("Right(%v) = %t", brief(n), got)
	}
	if got, want := net.All(n), slowAll(n); !slices.Equal(got, want) {
		t.Fatalf("All(%v) = %d messages, not %d", brief(n), len(got), len(want))
	}
	for _, at := range near(n) {
		if got, want := net.Len(n, at.edge, at.from, at.to), len(slowAt(n, at)); got != want {
			t.Fatalf("Len(%v, %v) = %d, not %d", brief(n), at, got, want)
		}
	}
}

// near are the places of the boxes, and those beside them.
func near(n []api.Box) []place {
	all := []place{{}, {-1, 0, 0}, {0, -1, 0}, {0, 0, -1}}
	for _, x := range n {
		at := placeOf(x)
		all = append(all, at, place{at.edge + 1, at.from, at.to}, place{at.edge, at.from + 1, at.to}, place{at.edge, at.from, at.to + 1},
			place{at.edge - 1, at.from, at.to}, place{at.edge, at.from - 1, at.to}, place{at.edge, at.from, at.to - 1}, place{at.edge, at.to, at.from}, place{at.from, at.edge, at.to})
	}
	return all
}
