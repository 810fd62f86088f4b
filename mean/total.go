package mean

import (
	"slices"

	"backwash/api"
)

// cell of a KTotal's sums, of a key. Its timestamp has the epoch 0: epochs are run in order, so what came in any of them up to now counts. In place of each counter stands a number from 1 on, which holds as many counters as its lowest bit is worth, the last of them one less than itself. So each counter is in few cells, and few cells together hold all counters up to one.
type cell struct {
	node int
	time api.Time
	k    int64
}

// sum of values, which is all that a KTotal asks of them: high times 2^32, and low. Both have room, since no more than 2^20 values may come.
type sum struct {
	high, low int64
}

// plus a value, n times.
func (s sum) plus(v int64, n int) sum {
	return sum{s.high + (v>>32)*int64(n), s.low + (v&(1<<32-1))*int64(n)}
}

// items of a key that have this sum: one from 0 on, and as often as need be 2^62 or -2^62.
func (s sum) items(k int64) []api.Item {
	high := s.high + s.low>>32
	many := int(high >> 30)
	rest := (high&(1<<30-1))<<32 + s.low&(1<<32-1)
	one := api.Item{Rec: api.Rec{K: k, V: rest}, N: 1}
	switch {
	case many < 0:
		return []api.Item{{Rec: api.Rec{K: k, V: -1 << 62}, N: -many}, one}
	case many > 0:
		return []api.Item{one, {Rec: api.Rec{K: k, V: 1 << 62}, N: many}}
	}
	return []api.Item{one}
}

// add what came to a KTotal at a point.
func (f *flow) add(p api.Point, came []api.Item) {
	times := cellTimes(p.Time, func(i int) int { return i + i&-i })
	for _, x := range came {
		for _, t := range times {
			c := cell{p.Node, t, x.Rec.K}
			f.sums[c] = f.sums[c].plus(x.Rec.V, x.N)
		}
	}
}

// total of what came to a KTotal up to a point, of the keys of a bag.
func (f *flow) total(p api.Point, of []api.Item) []api.Item {
	times := cellTimes(p.Time, func(i int) int { return i - i&-i })
	var all []api.Item
	for i, x := range of {
		k := x.Rec.K
		if i > 0 && k == of[i-1].Rec.K {
			continue
		}
		var s sum
		for _, t := range times {
			part := f.sums[cell{p.Node, t, k}]
			s = sum{s.high + part.high, s.low + part.low}
		}
		all = append(all, s.items(k)...)
	}
	return all
}

// cellTimes are those of the cells to which steps lead, counter by counter, from that of a timestamp.
func cellTimes(t api.Time, step func(i int) int) []api.Time {
	t.C[0] = 0
	times := []api.Time{t}
	for c := 1; c < t.D; c++ {
		var more []api.Time
		for _, u := range times {
			for i := t.C[c] + 1; 0 < i && i <= api.MaxCount; i = step(i) {
				u.C[c] = i
				more = append(more, u)
			}
		}
		times = more
	}
	return times
}

// again wait those points of a KTotal in this epoch that are behind this one, and were made ahead of it. (Those that don't hang on it stay as they are.)
func (f *flow) again(p api.Point) {
	made := f.made[p.Node]
	at, found := slices.BinarySearchFunc(made, p.Time, func(a, b api.Time) int { return slices.Compare(a.C[:], b.C[:]) })
	if !found {
		made = slices.Insert(made, at, p.Time)
		f.made[p.Node] = made
	}
	for _, t := range made[at+1:] {
		f.come(api.Point{Node: p.Node, Time: t}, 0, nil)
	}
}
