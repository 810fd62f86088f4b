package cell_test

import (
	"slices"
	"testing"

	"backwash/api"
)

// What is not stale, and not covered, is gone.
func TestP15_3_Drop(t *testing.T) {
	all := c(made(at(0), saw(n(1, 1, 1)), n(1, 1, 1)), stale(at(1), saw(n(1, 1, 1))), made(at(1, 0), saw1(n(1, 1, 1))), api.Slot{Time: at(1, 2), In: saw(n(1, 1, 1))}, again(at(2), saw(n(1, 1, 1)), n(1, 1, 1)), made(at(2, 1), saw(), n(1, 1, 1)), made(at(3), saw(n(1, 1, 1)), n(1, 1, 1)))
	left := func(want []api.Slot, before ...api.Time) {
		t.Helper()
		for _, kind := range kinds() {
			if got := drops(t, all, kind, before...); kind != api.KTotal && !same(got, want) {
				t.Fatalf("%d: %s, not %s", kind, brief(got), brief(want))
			}
		}
	}
	left(c(all[1], all[4]))
	left(all, at(0), at(0, 0))
	left(c(all[0], all[1], all[4], all[6]), at(0))
	left(c(all[1], all[4], all[6]), at(1))
	left(c(all[1], all[4], all[6]), at(3))
	left(c(all[1], all[4]), at(4))
	left(c(all[1], all[2], all[3], all[4], all[5]), at(0, 0))
	left(c(all[1], all[2], all[3], all[4], all[5]), at(1, 0))
	left(c(all[1], all[3], all[4], all[5]), at(0, 1))
	left(c(all[1], all[3], all[4]), at(1, 2))
	left(c(all[1], all[4], all[5]), at(2, 0))
	left(c(all[1], all[4], all[5], all[6]), at(3), at(2, 1))
	left(c(all[1], all[4]), at(0, 0, 0), at(0, 0, 0, 0))
}

// Of a KTotal what came stays, and what was sent goes.
func TestP15_3_DropOfATotal(t *testing.T) {
	all := c(made(at(0), saw(n(1, 1, 1)), n(1, 1, 1)), stale(at(1), saw(n(1, 1, 1)), n(3, 1, 1)), made(at(1, 0), saw1(n(1, 1, 1))), api.Slot{Time: at(1, 2), In: saw(n(1, 1, 1)), Sent: l(n(2, 1, 1))}, again(at(2), saw(), n(1, 1, 1)), made(at(2, 1), saw(), n(1, 1, 1)), made(at(3), saw(), n(-1, 1, 1)), made(at(4), both(l(n(-1, 1, 1)), l(n(1, 2, 2))), n(1, 1, 1)))
	bare := slices.Clone(all)
	for _, i := range []int{0, 2, 3, 7} {
		bare[i].Sent = nil
	}
	left := func(want []api.Slot, before ...api.Time) {
		t.Helper()
		if got := drops(t, all, api.KTotal, before...); !same(got, want) {
			t.Fatalf("%s, not %s", brief(got), brief(want))
		}
	}
	left(c(bare[0], all[1], bare[2], bare[3], all[4], bare[7]))
	left(all, at(0), at(0, 0))
	left(c(all[0], all[1], bare[2], bare[3], all[4], all[6], all[7]), at(0))
	left(c(bare[0], all[1], bare[2], bare[3], all[4], all[6], all[7]), at(2))
	left(c(bare[0], all[1], bare[2], all[3], all[4], all[5], bare[7]), at(0, 1), at(5))
	left(c(bare[0], all[1], bare[2], bare[3], all[4], bare[7]), at(1, 0, 0))
	// What was dropped once stays as it is.
	again := drops(t, all, api.KTotal)
	if got := drops(t, again, api.KTotal); !same(got, again) {
		t.Fatalf("%s, then %s", brief(again), brief(got))
	}
}

// Lists that are no chains, and timestamps that aren't right, cover what their right ones cover.
func TestP15_3_AheadThatIsNoChain(t *testing.T) {
	all := c(one(at(0)), one(at(1)), stale(at(2), saw(n(1, 1, 1))), one(at(2, 3)), one(at(3)))
	for _, kind := range kinds() {
		for _, u := range wrongTimes() {
			drops(t, all, kind, u)
			drops(t, all, kind, u, at(1))
			drops(t, all, kind, at(3), at(1), u, at(1))
		}
		drops(t, all, kind, at(3), at(1), at(2), at(1))
		if got := drops(t, all, kind, at(1<<20), at(2, 2), at(0)); !same(got, all) {
			t.Fatalf("%d: %s", kind, brief(got))
		}
	}
}

// Of each right cell, with each kind, covered and not.
func TestP15_3_RightCells(t *testing.T) {
	for _, all := range rightCells() {
		for _, kind := range kinds() {
			drops(t, all, kind)
			for _, u := range near(all) {
				drops(t, all, kind, u)
				drops(t, all, kind, u, at(0, 1))
			}
		}
	}
}

// A cell that isn't right is answered as it is.
func TestP15_3_AnswersOfWrongCells(t *testing.T) {
	for _, all := range wrongCells() {
		for _, kind := range []int{api.KSum, api.KTotal, 0} {
			for _, before := range [][]api.Time{nil, times(at(0)), times(at(1), at(0, 0)), times(at(9))} {
				if got := drops(t, all, kind, before...); !same(got, all) {
					t.Fatalf("Drop(%s, %d, %v) = %s", brief(all), kind, before, brief(got))
				}
			}
		}
	}
}

// What a KTotal dropped still counts for later slots.
func TestP15_3_WhatIsDroppedOfATotalCounts(t *testing.T) {
	all, _, _ := comes(t, nil, api.KTotal, 0, at(0), r(1, 5), 1)
	all, _, _, _ = makes(t, all, of(api.KTotal), at(0), true)
	all = drops(t, all, api.KTotal, at(1))
	if !same(all, c(made(at(0), saw(n(1, 1, 5))))) {
		t.Fatalf("%s", brief(all))
	}
	all, late, _ := comes(t, all, api.KTotal, 0, at(1), r(1, 3), 1)
	all, _, given, _ := makes(t, all, of(api.KTotal), at(1), true)
	if late || !slices.Equal(given, l(n(1, 1, 8))) {
		t.Fatalf("%s, %t, %v", brief(all), late, given)
	}
}
