package net_test

import (
	"math"
	"slices"
	"testing"

	"backwash/api"
	"backwash/net"
)

// chance is a row of numbers that is the same each time.
type chance uint64

// below n, from 0 on.
func (c *chance) below(n int) int {
	*c = *c*6364136223846793005 + 1442695040888963407
	return int(uint64(*c)>>33) % n
}

// place of few edges and workers, so that the same one comes often; seldom one that may not be.
func (c *chance) place() place {
	at := place{c.below(3), c.below(3), c.below(2)}
	if c.below(40) == 0 {
		at.from = -1
	}
	return at
}

// boxes are any few, often not right.
func (c *chance) boxes() []api.Box {
	var n []api.Box
	for i := range c.below(5) {
		x := api.Box{Edge: i/2 + c.below(2), From: c.below(3), To: c.below(2)}
		for range c.below(12) {
			edge := x.Edge
			if c.below(60) == 0 {
				edge = c.below(3)
			}
			x.List = append(x.List, m(edge, c.below(50)))
		}
		n = append(n, x)
	}
	return n
}

// Putting and taking by chance, each step held against the slow answer.
func TestP14_3_ManySteps(t *testing.T) {
	c := chance(14)
	full, gone := 0, 0
	for range 60 {
		var n []api.Box
		room, often := 1+c.below(6), 2+c.below(3)
		for step := range 150 {
			at := c.place()
			if c.below(often) > 0 {
				got, ok := puts(t, n, at.from, at.to, room, m(at.edge, step))
				if !ok && at.from >= 0 {
					full++
				}
				n = got
			} else {
				had := len(n)
				got, _, _ := takes(t, n, at.edge, at.from, at.to, c.below(room+1)-c.below(2))
				if len(got) < had {
					gone++
				}
				n = got
			}
			if step%10 == 0 {
				tells(t, n)
			}
		}
	}
	if full < 100 || gone < 100 {
		t.Errorf("a box was full %d times, and gone %d times", full, gone)
	}
}

// Boxes of any kind, right and not, held against the slow answer.
func TestP14_3_ManyBoxes(t *testing.T) {
	c := chance(143)
	right := 0
	for range 20000 {
		n := c.boxes()
		at := c.place()
		tells(t, n)
		puts(t, n, at.from, at.to, c.below(14)-1, m(at.edge, 77))
		takes(t, n, at.edge, at.from, at.to, c.below(13)-1)
		if net.Right(n) {
			right++
		}
	}
	if right < 3000 {
		t.Errorf("just %d were right", right)
	}
}

// kept are messages that lie in no mailboxes of package net: of each place its own, in the order in which they came.
type kept map[place][]api.Msg

// Whatever the order of putting and taking: each message is taken once, none other, and those that stay keep their order.
func TestP14_3_EachIsTakenOnce(t *testing.T) {
	for seed := range chance(20) {
		c := seed + 1000
		var n []api.Box
		lying, taken := kept{}, map[int]int{}
		put := 0
		for put < 400 || len(n) > 0 {
			if put < 400 && c.below(5) > 1 {
				at := place{c.below(4), c.below(3), c.below(3)}
				var ok bool
				n, ok = net.Put(n, at.from, at.to, math.MaxInt, m(at.edge, put))
				if !ok {
					t.Fatalf("message %d isn't put", put)
				}
				lying[at] = append(lying[at], m(at.edge, put))
				put++
			} else if len(n) > 0 {
				x := n[c.below(len(n))]
				i := c.below(len(x.List))
				got, y, ok := net.Take(n, x.Edge, x.From, x.To, i)
				at := placeOf(x)
				if !ok || y != lying[at][i] {
					t.Fatalf("Take %d of %v = %+v, %t, not %+v", i, at, y, ok, lying[at][i])
				}
				lying[at] = slices.Delete(lying[at], i, i+1)
				taken[y.N]++
				n = got
			}
			for at, list := range lying {
				if net.Len(n, at.edge, at.from, at.to) != len(list) {
					t.Fatalf("at %v lie %d, not %d", at, net.Len(n, at.edge, at.from, at.to), len(list))
				}
			}
			for _, x := range n {
				if !slices.Equal(x.List, lying[placeOf(x)]) {
					t.Fatalf("at %v lie %v, not %v", placeOf(x), x.List, lying[placeOf(x)])
				}
			}
		}
		if len(taken) != put {
			t.Fatalf("%d messages were put, and %d taken", put, len(taken))
		}
		for number, times := range taken {
			if times != 1 {
				t.Fatalf("message %d was taken %d times", number, times)
			}
		}
	}
}

// The same messages in all orders that keep each box's own make the same mailboxes.
func TestP14_3_AnyOrderOfBoxes(t *testing.T) {
	rows := [][]laid{
		{{place{0, 1, 1}, m(0, 1)}, {place{0, 1, 1}, m(0, 2)}},
		{{place{0, 0, 2}, m(0, 3)}, {place{0, 0, 2}, m(0, 4)}},
		{{place{1, 0, 0}, m(1, 5)}, {place{1, 0, 0}, m(1, 6)}},
	}
	want := l(b(0, 0, 2, 3, 4), b(0, 1, 1, 1, 2), b(1, 0, 0, 5, 6))
	orders := 0
	var grow func(n []api.Box, next [3]int)
	grow = func(n []api.Box, next [3]int) {
		over := true
		for i, row := range rows {
			if next[i] == len(row) {
				continue
			}
			over = false
			x := row[next[i]]
			got, ok := net.Put(n, x.at.from, x.at.to, 2, x.m)
			if !ok {
				t.Fatalf("%+v isn't put to %v", x, brief(n))
			}
			further := next
			further[i]++
			grow(got, further)
		}
		if over {
			orders++
			if !same(n, want) {
				t.Errorf("%v, not %v", brief(n), brief(want))
			}
		}
	}
	grow(nil, [3]int{})
	if orders != 90 {
		t.Errorf("%d orders", orders)
	}
}
