package mean

import (
	"container/heap"
	"slices"

	"backwash/api"
	"backwash/valid"
)

// queue of points, in such an order that each comes behind all that may come to it.
//
// Operators have a rank for each coordinate, which rises along each way that leads around no more: so one operator's points all come ahead of another one's. Those between which ways lead around have the same rank; they go on together from one number of the next coordinate to the next. While it stays as it is, no way around its loop counts, and they are told apart by the next rank.
type queue struct {
	turns turns
	ranks [api.MaxDepth][]int
}

// turn is a point that waits, and its place: each coordinate, and behind it the rank.
type turn struct {
	point api.Point
	place [2 * api.MaxDepth]int
}

// turns are a heap.
type turns []turn

func (l turns) Len() int           { return len(l) }
func (l turns) Less(i, j int) bool { return slices.Compare(l[i].place[:], l[j].place[:]) < 0 }
func (l turns) Swap(i, j int)      { l[i], l[j] = l[j], l[i] }
func (l *turns) Push(x any)        { *l = append(*l, x.(turn)) }
func (l *turns) Pop() any {
	last := len(*l) - 1
	x := (*l)[last]
	*l = (*l)[:last]
	return x
}

// newQueue has no points.
func newQueue(g api.Graph) queue {
	var q queue
	for i := range q.ranks {
		q.ranks[i] = ranks(ways(g, i+1))
	}
	return q
}

// empty: does no point wait?
func (q *queue) empty() bool { return len(q.turns) == 0 }

// put a point to its place.
func (q *queue) put(p api.Point) {
	x := turn{point: p}
	for i, c := range p.Time.C {
		x.place[2*i], x.place[2*i+1] = c, q.ranks[i][p.Node]
	}
	heap.Push(&q.turns, x)
}

// take the first point.
func (q *queue) take() api.Point {
	return heap.Pop(&q.turns).(turn).point
}

// ways: of each operator to which ones ways lead, a bit for each, around no loop of so many coordinates or fewer.
func ways(g api.Graph, coordinates int) []uint64 {
	to := make([]uint64, len(g.Nodes))
	for _, e := range g.Edges {
		if g.Nodes[e.From].Kind != api.KBack || valid.Takes(g, e.From) > coordinates {
			to[e.From] |= 1 << e.To
		}
	}
	for by := range to {
		for n := range to {
			if leads(to, n, by) {
				to[n] |= to[by]
			}
		}
	}
	return to
}

// leads: does a way lead from one operator to another one?
func leads(to []uint64, n, m int) bool { return to[n]>>m&1 == 1 }

// ranks: of each operator from how many a way leads to it that leads around no more. These lead to whatever it leads to; so does it, if it isn't led back to: the rank rises.
func ranks(to []uint64) []int {
	rank := make([]int, len(to))
	for n := range to {
		for m := range to {
			if leads(to, m, n) && !leads(to, n, m) {
				rank[n]++
			}
		}
	}
	return rank
}
