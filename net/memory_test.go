package net_test

import (
	"slices"
	"testing"

	"backwash/api"
	"backwash/net"
)

// copied are mailboxes in memory of their own.
func copied(n []api.Box) []api.Box {
	all := slices.Clone(n)
	for i := range all {
		all[i].List = slices.Clone(all[i].List)
	}
	return all
}

// roomy are mailboxes with spare room behind them and behind each list of messages, and all of that room.
func roomy(n []api.Box) (list, whole []api.Box) {
	for _, x := range append(copied(n), b(50, 1, 1, 1), b(51, 1, 1, 2), b(52, 1, 1, 3)) {
		many := len(x.List)
		x.List = append(x.List, m(x.Edge, 91), m(x.Edge, 92), m(x.Edge, 93))[:many]
		whole = append(whole, x)
	}
	return whole[:len(n)], whole
}

// full are mailboxes whose lists reach to the ends of their room.
func full(whole []api.Box) []api.Box {
	all := slices.Clone(whole[:cap(whole)])
	for i := range all {
		all[i].List = slices.Clone(all[i].List[:cap(all[i].List)])
	}
	return all
}

// scribble over mailboxes and messages, and all of their spare room.
func scribble(n []api.Box) {
	n = n[:cap(n)]
	for i := range n {
		list := n[i].List[:cap(n[i].List)]
		for j := range list {
			list[j] = api.Msg{Edge: -5, N: -5}
		}
		n[i] = api.Box{Edge: -5}
	}
}

// apart says so if an answer is not in memory of its own, or what was handed in was changed, its spare room too; list is what was handed in, whole all of its room.
func apart(t *testing.T, list, whole, answer []api.Box, ask func(n []api.Box) []api.Box) {
	t.Helper()
	before, want := full(whole), copied(answer)
	got := ask(list)
	if !same(got, want) {
		t.Fatalf("spare room matters: %v, not %v", brief(got), brief(want))
	}
	if !same(full(whole), before) {
		t.Fatalf("changed: %v", brief(list))
	}
	again := ask(list)
	scribble(got)
	if !same(full(whole), before) || !same(again, want) {
		t.Fatalf("the answer of %v is not in memory of its own", brief(list))
	}
	scribble(list)
	if !same(again, want) {
		t.Fatalf("the answer %v is kept where the mailboxes are", brief(want))
	}
	for i := range again {
		grown := append(again[i].List, m(0, 99))
		if scribble([]api.Box{{List: grown}}); len(again) > 1 {
			other := (i + 1) % len(again)
			if !slices.Equal(again[other].List, want[other].List) {
				t.Fatalf("two lists of %v share their memory", brief(want))
			}
		}
		again[i].List = slices.Clone(want[i].List)
	}
}

// some are mailboxes of all kinds, right and not.
func some() [][]api.Box {
	right := [][]api.Box{nil, l(b(0, 0, 0, 1)), l(b(0, 0, 0, 1, 2)), l(b(0, 0, 0, 1), b(0, 1, 0, 2, 3, 4), b(1, 0, 0, 5), b(1, 0, 1, 6, 7)), l(b(0, 1, 0, 1, 2, 3), b(2, 0, 0, 4), b(3, 0, 0, 5))}
	return slices.Concat(right, wrongBoxes())
}

// What is handed in to Put stays as it is, whether the message is put or not, and shares nothing with the answer.
func TestP14_1_WhatIsHandedInStays(t *testing.T) {
	for _, n := range some() {
		for _, at := range near(n) {
			for _, room := range []int{0, 1, 2, 10} {
				put := func(n []api.Box) []api.Box {
					got, _ := net.Put(n, at.from, at.to, room, m(at.edge, 70))
					return got
				}
				list, whole := roomy(n)
				apart(t, list, whole, put(n), put)
			}
		}
	}
}

// So does what is handed in to Take.
func TestP14_2_WhatIsHandedInStays(t *testing.T) {
	for _, n := range some() {
		for _, at := range near(n) {
			for i := -1; i < 4; i++ {
				take := func(n []api.Box) []api.Box {
					got, _, _ := net.Take(n, at.edge, at.from, at.to, i)
					return got
				}
				list, whole := roomy(n)
				apart(t, list, whole, take(n), take)
			}
		}
	}
}

// All answers messages in memory of their own, and it, Right and Len change nothing.
func TestP14_2_AllIsNewMemory(t *testing.T) {
	for _, n := range some() {
		list, whole := roomy(n)
		before, want := full(whole), slowAll(n)
		right, got, again := net.Right(list), net.All(list), net.All(list)
		for _, at := range near(n) {
			if many := net.Len(list, at.edge, at.from, at.to); many != len(slowAt(n, at)) {
				t.Fatalf("spare room matters to Len(%v, %v) = %d", brief(n), at, many)
			}
		}
		if right != slowRight(n) || !slices.Equal(got, want) {
			t.Fatalf("spare room matters: %v", brief(n))
		}
		scribble([]api.Box{{List: got}})
		if !same(full(whole), before) || !slices.Equal(again, want) {
			t.Fatalf("the messages of %v are not in memory of their own", brief(n))
		}
		scribble(list)
		if !slices.Equal(again, want) {
			t.Fatalf("the messages of %v are kept where the mailboxes are", brief(n))
		}
	}
}
