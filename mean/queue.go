package mean

import (
	"container/heap"
	"slices"

	"backwash/api"
	"backwash/valid"
)

// queue of points, in such an order that each comes behind all that may come to it.
//
// A point's place is told by its coordinates, and behind each of them a rank of its operator. The rank rises along each way from which none leads back: one operator's points all come ahead of another one's. Operators between which ways lead both ways have the same rank: they are in one loop of more coordinates, and go through the numbers of the next one together. Behind that one a way around this loop counts no more, since along it that coordinate would rise. (Of two points with the same place neither may come of the other one.)
type queue struct {
	turns turns
	ranks [api.MaxDepth][]int
}

// turn is a point that waits, and its place: each coordinate, and behind it the rank.
type turn struct {
	point api.Point
	place [2 * api.MaxDepth]int
}

// turns are a heap.
type turns []turn

func (l turns) Len() int           { return len(l) }
func (l turns) Less(i, j int) bool { return slices.Compare(l[i].place[:], l[j].place[:]) < 0 }
func (l turns) Swap(i, j int)      { l[i], l[j] = l[j], l[i] }
func (l *turns) Push(x any)        { *l = append(*l, x.(turn)) }
func (l *turns) Pop() any {
	last := len(*l) - 1
	x := (*l)[last]
	*l = (*l)[:last]
	return x
}

// newQueue has no points.
func newQueue(g api.Graph) queue {
	var q queue
	for i := range q.ranks {
		q.ranks[i] = ranks(ways(g, i+1))
	}
	return q
}

// empty: does no point wait?
func (q *queue) empty() bool { return len(q.turns) == 0 }

// put a point to its place.
func (q *queue) put(p api.Point) {
	x := turn{point: p}
	for i, c := range p.Time.C {
		x.place[2*i], x.place[2*i+1] = c, q.ranks[i][p.Node]
	}
	heap.Push(&q.turns, x)
}

// take the first point.
func (q *queue) take() api.Point {
	return heap.Pop(&q.turns).(turn).point
}

// ways: of each operator to which ones ways lead, a bit for each, that go around no loop of so many coordinates or fewer.
func ways(g api.Graph, coordinates int) []uint64 {
	to := make([]uint64, len(g.Nodes))
	for _, e := range g.Edges {
		if g.Nodes[e.From].Kind != api.KBack || valid.Takes(g, e.From) > coordinates {
			to[e.From] |= 1 << e.To
		}
	}
	for by := range to {
		for n := range to {
			if leads(to, n, by) {
				to[n] |= to[by]
			}
		}
	}
	return to
}

// leads: does a way lead from one operator to another one?
func leads(to []uint64, n, m int) bool { return to[n]>>m&1 == 1 }

// ranks: of each operator how many lead to it, and are not led back to. They lead to whatever it leads to, and so does it itself: where it is not led back to, the rank is greater.
func ranks(to []uint64) []int {
	rank := make([]int, len(to))
	for n := range to {
		for m := range to {
			if leads(to, m, n) && !leads(to, n, m) {
				rank[n]++
			}
		}
	}
	return rank
}
