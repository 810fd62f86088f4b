package ops_test

import (
	"slices"
	"testing"

	"backwash/api"
	"backwash/ops"
)

// some is a bag of three keys: one of its records is there twice, and one is taken away ahead of being there.
func some() []api.Item {
	return l(n(2, 1, 2), n(1, 1, 3), n(-4, 2, 4), n(1, 2, 5), n(3, 4, -1))
}

// other is another one.
func other() []api.Item {
	return l(n(1, 1, 10), n(-1, 1, 11), n(2, 3, 1), n(2, 4, -1), n(1, 4, 0))
}

func TestP11_1_WhatStaysAsItIs(t *testing.T) {
	there := l(n(2, 1, 2), n(1, 1, 3), n(1, 2, 5), n(3, 4, -1))
	for _, kind := range plain() {
		gives(t, of(kind), p(some()), there...)
		gives(t, by(kind, 5), p(some(), other()), there...)
		gives(t, of(kind), p(nil, other()))
		gives(t, of(kind), p(l(), other()))
		gives(t, of(kind), p(l(n(-1, 1, 1), n(-often, 2, 2))))
		gives(t, of(kind), p(l(n(1, least, least), n(1, least, over), n(room-3, 0, 0), n(1, greatest, greatest))), n(1, least, least), n(1, least, over), n(room-3, 0, 0), n(1, greatest, greatest))
		gives(t, api.Node{Kind: kind, Scope: 3, Arg: -1, Prog: emits(2)}, p(there), there...)
	}
}

// A KInput has a port 0 here, which it has in no graph.
func TestP11_1_TheInputsPort(t *testing.T) {
	gives(t, of(api.KInput), p(l(n(2, 1, 2))), n(2, 1, 2))
	gives(t, of(api.KInput), nil)
	gives(t, of(api.KInput), p(l(), l(n(2, 1, 2))))
}

func TestP11_1_Concat(t *testing.T) {
	concat := of(api.KConcat)
	gives(t, concat, p(some(), other()), n(2, 1, 2), n(1, 1, 3), n(1, 1, 10), n(1, 2, 5), n(2, 3, 1), n(5, 4, -1), n(1, 4, 0))
	gives(t, concat, p(other(), some()), n(2, 1, 2), n(1, 1, 3), n(1, 1, 10), n(1, 2, 5), n(2, 3, 1), n(5, 4, -1), n(1, 4, 0))
	gives(t, concat, p(some(), nil), n(2, 1, 2), n(1, 1, 3), n(1, 2, 5), n(3, 4, -1))
	gives(t, concat, p(some()), n(2, 1, 2), n(1, 1, 3), n(1, 2, 5), n(3, 4, -1))
	gives(t, concat, p(nil, other()), n(1, 1, 10), n(2, 3, 1), n(2, 4, -1), n(1, 4, 0))
	gives(t, concat, p(l(n(1, 5, 5)), l(n(1, 5, 5))), n(2, 5, 5))
	gives(t, concat, p(l(n(1, least, 0)), l(n(1, greatest, 0))), n(1, least, 0), n(1, greatest, 0))
	gives(t, concat, p(l(n(1, greatest, 0)), l(n(1, least, 0))), n(1, least, 0), n(1, greatest, 0))
	// What is there less than once in the one port takes nothing away in the other one.
	gives(t, concat, p(l(n(-3, 1, 1)), l(n(2, 1, 1))), n(2, 1, 1))
	gives(t, concat, p(l(n(2, 1, 1)), l(n(-often, 1, 1))), n(2, 1, 1))
	gives(t, concat, p(l(n(-2, 1, 1)), l(n(-2, 1, 1))))
	for range 3 {
		gives(t, concat, p(some(), some()), n(4, 1, 2), n(2, 1, 3), n(2, 2, 5), n(6, 4, -1))
	}
}

func TestP11_1_Distinct(t *testing.T) {
	distinct := of(api.KDistinct)
	gives(t, distinct, p(some(), other()), n(1, 1, 2), n(1, 1, 3), n(1, 2, 5), n(1, 4, -1))
	gives(t, distinct, p(l(n(often, 1, 2), n(often, 1, 3), n(-often, 2, 0), n(room+1, least, 0))))
	gives(t, distinct, p(l(n(room+1, least, 0), n(often, 1, 2), n(1, 1, 3), n(-often, 2, 0))), n(1, least, 0), n(1, 1, 2), n(1, 1, 3))
	gives(t, distinct, p(nil))
}

func TestP11_1_Keep(t *testing.T) {
	all := l(n(1, 0, least), n(2, 0, least+1), n(1, 0, -6), n(1, 0, -5), n(1, 0, -4), n(1, 0, -3), n(3, 0, -2), n(1, 0, -1), n(4, 0, 0), n(1, 0, 1), n(1, 0, 2), n(2, 0, 3), n(1, 0, 4), n(1, 0, 6), n(1, 0, greatest-1), n(2, 0, greatest))
	for _, arg := range []int64{0, -1, -2, -3, least, least + 1} {
		gives(t, by(api.KKeep, arg), p(all))
	}
	gives(t, by(api.KKeep, 1), p(all), all...)
	gives(t, by(api.KKeep, 2), p(all), n(1, 0, least), n(1, 0, -6), n(1, 0, -4), n(3, 0, -2), n(4, 0, 0), n(1, 0, 2), n(1, 0, 4), n(1, 0, 6), n(1, 0, greatest-1))
	gives(t, by(api.KKeep, 3), p(all), n(1, 0, -6), n(1, 0, -3), n(4, 0, 0), n(2, 0, 3), n(1, 0, 6), n(1, 0, greatest-1))
	gives(t, by(api.KKeep, 7), p(all), n(2, 0, least+1), n(4, 0, 0), n(2, 0, greatest))
	gives(t, by(api.KKeep, greatest), p(all), n(2, 0, least+1), n(4, 0, 0), n(2, 0, greatest))
	gives(t, by(api.KKeep, greatest-1), p(all), n(4, 0, 0), n(1, 0, greatest-1))
	gives(t, by(api.KKeep, 1<<62), p(all), n(1, 0, least), n(4, 0, 0))
	// It is the value that is divided, not the key; each record stays as often as it is there.
	gives(t, by(api.KKeep, 2), p(l(n(1, 2, 1), n(9, 3, 2), n(-1, 4, 4))), n(9, 3, 2))
	gives(t, by(api.KKeep, 2), p(l(n(1, 1, 1)), l(n(1, 2, 2))))
}

func TestP11_1_Shift(t *testing.T) {
	gives(t, by(api.KShift, 0), p(some()), n(2, 1, 2), n(1, 1, 3), n(1, 2, 5), n(3, 4, -1))
	gives(t, by(api.KShift, 4), p(some(), other()), n(2, 1, 6), n(1, 1, 7), n(1, 2, 9), n(3, 4, 3))
	gives(t, by(api.KShift, -4), p(some()), n(2, 1, -2), n(1, 1, -1), n(1, 2, 1), n(3, 4, -5))
	ends := l(n(2, 7, least), n(1, 7, least+1), n(1, 7, -1), n(3, 7, 0), n(1, 7, 1), n(1, 7, greatest-1), n(4, 7, greatest))
	gives(t, by(api.KShift, 0), p(ends), ends...)
	gives(t, by(api.KShift, 1), p(ends), n(2, 7, least+1), n(5, 7, over), n(1, 7, 0), n(3, 7, 1), n(1, 7, 2), n(1, 7, greatest))
	gives(t, by(api.KShift, 2), p(ends), n(2+1+4, 7, over), n(1, 7, least+3), n(1, 7, 1), n(3, 7, 2), n(1, 7, 3))
	gives(t, by(api.KShift, -1), p(ends), n(1, 7, least), n(2, 7, over), n(1, 7, -2), n(3, 7, -1), n(1, 7, 0), n(1, 7, greatest-2), n(4, 7, greatest-1))
	gives(t, by(api.KShift, -2), p(ends), n(2+1, 7, over), n(1, 7, -3), n(3, 7, -2), n(1, 7, -1), n(1, 7, greatest-3), n(4, 7, greatest-2))
	gives(t, by(api.KShift, greatest), p(ends), n(1+1+4, 7, over), n(2, 7, -1), n(1, 7, 0), n(1, 7, greatest-1), n(3, 7, greatest))
	gives(t, by(api.KShift, least), p(ends), n(3, 7, least), n(1, 7, least+1), n(2+1+1, 7, over), n(1, 7, -2), n(4, 7, -1))
	gives(t, by(api.KShift, least+1), p(ends), n(1, 7, least), n(3, 7, least+1), n(2+1+1, 7, over), n(1, 7, -1), n(4, 7, 0))
}

// An error is of the record's own key, as often as that is there, and beside records of the same value it is no other one.
func TestP11_1_ErrorsOfShift(t *testing.T) {
	gives(t, by(api.KShift, 1), p(l(n(2, -3, greatest), n(1, -2, 0), n(1, least, greatest))))
	gives(t, by(api.KShift, 1), p(l(n(1, least, greatest), n(2, -3, greatest), n(1, -2, 0), n(5, greatest, greatest))), n(1, least, over), n(2, -3, over), n(1, -2, 1), n(5, greatest, over))
	gives(t, by(api.KShift, 1), p(l(n(1, 0, least+1), n(2, 0, greatest))), n(3, 0, over))
	gives(t, by(api.KShift, -5), p(l(n(7, 0, least), n(1, 0, least+7), n(2, 1, least+4))), n(8, 0, over), n(2, 1, over))
}

func TestP11_1_Prog(t *testing.T) {
	a := l(n(2, 1, 2), n(-3, 1, 3), n(1, 2, 5))
	gives(t, does(), p(a, a))
	gives(t, does(emits(1)...), p(a), n(2, 1, 2), n(1, 2, 5))
	gives(t, does(emits(8)...), p(a, a), n(16, 1, 2), n(8, 2, 5))
	gives(t, does(in(api.OpVal), in(api.OpKey), in(api.OpEmit)), p(a), n(2, 2, 1), n(1, 5, 2))
	gives(t, does(in(api.OpKey)), p(a))
	gives(t, does(in(api.OpJump)), p(a), n(2, 1, least+api.BadFuel), n(1, 2, least+api.BadFuel))
	gives(t, does(in(api.OpDrop)), p(a), n(2, 1, least+api.BadStack), n(1, 2, least+api.BadStack))
	gives(t, does(in(api.OpVal), push(0), in(api.OpDiv)), p(a), n(2, 1, least+api.BadZero), n(1, 2, least+api.BadZero))
	gives(t, does(in(api.OpVal), push(greatest), in(api.OpAdd)), p(a), n(2, 1, over), n(1, 2, over))
	gives(t, does(emits(9)...), p(a), n(2, 1, least+api.BadEmit), n(1, 2, least+api.BadEmit))
	gives(t, does(in(99)), p(a))
	gives(t, does(slices.Concat(emits(21), []api.Ins{in(api.OpKey), in(api.OpKey)})...), p(a))
	gives(t, does(emits(1)...), p(nil, a))
	// Of each record something else comes: of the one an error, of the other eight records, of the third nothing.
	each := does(slices.Concat([]api.Ins{in(api.OpVal), {Op: api.OpZero, N: 32}, in(api.OpVal), push(1), in(api.OpSame), {Op: api.OpZero, N: 31}}, emits(8), []api.Ins{{Op: api.OpJump, N: 32}, in(api.OpDrop)})...)
	gives(t, each, p(l(n(often, 4, 0), n(2, 4, 1), n(3, 4, 2), n(1, 6, 2))), n(3, 4, least+api.BadStack), n(16, 4, 1), n(1, 6, least+api.BadStack))
}

// What comes of several records may be one record, there as often as of all of them.
func TestP11_1_ProgsThatMeet(t *testing.T) {
	one := does(push(3), push(4), in(api.OpEmit))
	gives(t, one, p(l(n(2, 1, 2), n(3, 1, 3), n(1, 2, 5), n(-5, 7, 7))), n(6, 3, 4))
	key := does(in(api.OpKey), push(4), in(api.OpEmit), in(api.OpKey), push(0), in(api.OpSub), push(-4), in(api.OpEmit), push(0), in(api.OpVal), in(api.OpEmit))
	gives(t, key, p(l(n(2, 1, 2), n(3, 1, 3), n(1, 2, 2))), n(3, 0, 2), n(3, 0, 3), n(5, 1, -4), n(5, 1, 4), n(1, 2, -4), n(1, 2, 4))
	// An error of one beside a record of another one that is the same.
	back := does(in(api.OpKey), in(api.OpVal), push(-1), in(api.OpAdd), in(api.OpEmit))
	gives(t, back, p(l(n(2, 1, least), n(3, 1, over+1), n(1, 2, least))), n(5, 1, over), n(1, 2, over))
}

func TestP11_1_Count(t *testing.T) {
	count := of(api.KCount)
	gives(t, count, p(l(n(1, 5, 9))), n(1, 5, 1))
	gives(t, count, p(some(), other()), n(1, 1, 3), n(1, 2, 1), n(1, 4, 3))
	gives(t, count, p(l(n(-1, 5, 9))))
	gives(t, count, p(nil, some()))
	gives(t, count, p(l(n(often, 0, 1))), n(1, 0, often))
	gives(t, count, p(l(n(often, 0, least), n(often, 0, 0), n(-often, 0, 1), n(often, 0, greatest), n(1, 1, 0))), n(1, 0, 3*often), n(1, 1, 1))
	gives(t, count, p(l(n(1, least, 0), n(2, least, 1), n(4, greatest, -1), n(1, greatest, 0))), n(1, least, 3), n(1, greatest, 5))
	gives(t, count, p(l(n(-9, 1, 1), n(3, 1, 2), n(-9, 2, 1), n(-9, 3, 0), n(1, 3, 1))), n(1, 1, 3), n(1, 3, 1))
}

func TestP11_1_Sum(t *testing.T) {
	sum := of(api.KSum)
	gives(t, sum, p(l(n(2, 1, 2), n(1, 1, 3))), n(1, 1, 7))
	gives(t, sum, p(l(n(1, 5, 9))), n(1, 5, 9))
	gives(t, sum, p(l(n(9, 5, 0))), n(1, 5, 0))
	gives(t, sum, p(some(), other()), n(1, 1, 7), n(1, 2, 5), n(1, 4, -3))
	gives(t, sum, p(l(n(2, 1, -3), n(3, 1, 2), n(1, 2, -8), n(2, 2, 4))), n(1, 1, 0), n(1, 2, 0))
	gives(t, sum, p(l(n(-1, 5, 9))))
	gives(t, sum, p(nil, some()))
	gives(t, sum, p(l(n(often, 0, -3), n(often, 0, 5))), n(1, 0, 2*often))
	gives(t, sum, p(l(n(often, 0, 1<<31), n(often-1, 1, 1<<31))), n(1, 0, 1<<62), n(1, 1, 1<<62-1<<31))
	gives(t, sum, p(l(n(1, least, 1), n(1, least, 2), n(1, greatest, -1))), n(1, least, 3), n(1, greatest, -1))
}

// sums are bags of one key, what their values add up to, or the error.
func sums() []struct {
	b    []api.Item
	want int64
} {
	return []struct {
		b    []api.Item
		want int64
	}{
		{l(n(1, 0, greatest)), greatest}, {l(n(1, 0, least)), least}, {l(n(1, 0, over)), over}, {l(n(1, 0, 0)), 0}, {l(n(often, 0, 0)), 0},
		{l(n(1, 0, 1), n(1, 0, greatest-1)), greatest}, {l(n(1, 0, 1), n(1, 0, greatest)), over}, {l(n(2, 0, 1), n(1, 0, greatest-1)), over},
		{l(n(1, 0, least+1), n(1, 0, -1)), least}, {l(n(1, 0, least), n(1, 0, -1)), over}, {l(n(1, 0, least+1), n(2, 0, -1)), over},
		{l(n(2, 0, 1<<62)), over}, {l(n(2, 0, 1<<62-1), n(1, 0, 1<<62)), over}, {l(n(2, 0, -1<<62)), least}, {l(n(2, 0, -1<<62), n(1, 0, -1)), over}, {l(n(1, 0, -1), n(2, 0, 1<<62)), greatest},
		// On its way the sum has no room, as a whole it has.
		{l(n(1, 0, least), n(2, 0, -5), n(10, 0, 1)), least}, {l(n(1, 0, least), n(2, 0, -5), n(9, 0, 1)), over}, {l(n(1, 0, -10), n(5, 0, 2), n(1, 0, greatest)), greatest}, {l(n(1, 0, -10), n(2, 0, 5), n(1, 0, 7), n(1, 0, greatest-7)), greatest},
		{l(n(1, 0, -1), n(1, 0, 1), n(1, 0, greatest)), greatest}, {l(n(3, 0, least), n(3, 0, greatest)), -3}, {l(n(often, 0, least), n(often, 0, greatest)), -often}, {l(n(often, 0, least), n(1, 0, often), n(often, 0, greatest)), 0},
		{l(n(2, 0, -1<<62), n(1, 0, -1), n(1, 0, 1)), least}, {l(n(3, 0, -1<<62), n(1, 0, 1<<62)), least}, {l(n(3, 0, -1<<62), n(2, 0, 1<<62)), -1 << 62}, {l(n(2, 0, -1<<62), n(4, 0, 1<<62)), over}, {l(n(2, 0, -1<<62), n(1, 0, -1), n(4, 0, 1<<62)), greatest},
		// Sums that come back to what they would be in 64 bits alone, and in 32.
		{l(n(4, 0, 1<<62)), over}, {l(n(4, 0, -1<<62)), over}, {l(n(2, 0, least)), over}, {l(n(2, 0, greatest)), over}, {l(n(1, 0, 2), n(2, 0, greatest)), over}, {l(n(8, 0, 1<<61)), over}, {l(n(often, 0, 1<<33)), over}, {l(n(often, 0, -1<<33)), over}, {l(n(often, 0, 1<<34)), over},
		{l(n(often, 0, 1<<32)), over}, {l(n(often, 0, -1<<32)), least}, {l(n(often, 0, -1<<32-1)), over}, {l(n(often, 0, 1<<32-1)), greatest - often + 1}, {l(n(1, 0, often-1), n(often, 0, 1<<32-1)), greatest}, {l(n(1, 0, often), n(often, 0, 1<<32-1)), over},
		{l(n(often, 0, least), n(often, 0, least+1), n(often, 0, least+2), n(often, 0, least+3)), over}, {l(n(often, 0, greatest-3), n(often, 0, greatest-2), n(often, 0, greatest-1), n(often, 0, greatest)), over}, {l(n(often, 0, greatest)), over}, {l(n(often, 0, least)), over}, {l(n(often, 0, greatest-1), n(often, 0, greatest)), over}, {l(n(often, 0, least), n(often, 0, least+1)), over},
		// What is there less than once brings none back.
		{l(n(-1, 0, least), n(1, 0, 1), n(1, 0, greatest)), over}, {l(n(1, 0, least), n(1, 0, -1), n(-1, 0, 0), n(-often, 0, 1)), over},
	}
}

func TestP11_1_SumsAtBothEnds(t *testing.T) {
	for _, c := range sums() {
		gives(t, of(api.KSum), p(c.b), n(1, 0, c.want))
		gives(t, of(api.KTotal), p(l(n(often, 0, 3)), c.b), n(1, 0, c.want))
	}
	// Of each key on its own: what has no room in the one is nothing to the others.
	gives(t, of(api.KSum), p(l(n(2, -1, greatest), n(1, 0, greatest), n(2, 1, least), n(1, 2, -1), n(1, 2, greatest), n(2, greatest, 1<<62))), n(1, -1, over), n(1, 0, greatest), n(1, 1, over), n(1, 2, greatest-1), n(1, greatest, over))
}

func TestP11_1_Total(t *testing.T) {
	total := of(api.KTotal)
	gives(t, total, p(l(n(1, 1, 2)), l(n(1, 1, 2))), n(1, 1, 2))
	gives(t, total, p(l(n(3, 1, 2)), l(n(4, 1, 5), n(1, 1, 6), n(1, 2, 7))), n(1, 1, 26))
	gives(t, total, p(some(), other()), n(1, 1, 10), n(1, 2, 0), n(1, 4, -2))
	gives(t, total, p(other(), some()), n(1, 1, 7), n(1, 3, 0), n(1, 4, -3))
	gives(t, total, p(some(), nil), n(1, 1, 0), n(1, 2, 0), n(1, 4, 0))
	gives(t, total, p(some()), n(1, 1, 0), n(1, 2, 0), n(1, 4, 0))
	gives(t, total, p(nil, some()))
	gives(t, total, p(l(n(-1, 1, 2)), some()))
	gives(t, total, p(l(n(1, 1, 2)), l(n(-5, 1, 2), n(2, 1, 3), n(-1, 1, 4))), n(1, 1, 6))
	gives(t, total, p(l(n(1, 1, 2)), l(n(-5, 1, 2))), n(1, 1, 0))
	gives(t, total, p(l(n(1, -1, 0), n(1, 3, 0), n(1, 5, 0), n(1, 9, 0)), l(n(1, -2, 1), n(1, 0, 2), n(1, 3, 3), n(1, 4, 4), n(2, 5, 5), n(1, 6, 6))), n(1, -1, 0), n(1, 3, 3), n(1, 5, 10), n(1, 9, 0))
	gives(t, total, p(l(n(1, 0, 0), n(1, 1, 0), n(1, 2, 0)), l(n(2, 0, greatest), n(2, 1, least), n(1, 2, least), n(1, 3, 1), n(2, 4, least))), n(1, 0, over), n(1, 1, over), n(1, 2, least))
	gives(t, total, p(l(n(1, least, 0), n(1, greatest, 0)), l(n(3, least, 5), n(3, greatest, 6))), n(1, least, 15), n(1, greatest, 18))
}

func TestP11_1_Join(t *testing.T) {
	join := of(api.KJoin)
	gives(t, join, p(some(), other()), n(2, 1, 12), n(1, 1, 13), n(6, 4, -2), n(3, 4, -1))
	gives(t, join, p(other(), some()), n(2, 1, 12), n(1, 1, 13), n(6, 4, -2), n(3, 4, -1))
	gives(t, join, p(some(), nil))
	gives(t, join, p(nil, some()))
	gives(t, join, p(some()))
	gives(t, join, p(l(n(1, 1, 1), n(1, 3, 3)), l(n(1, 0, 0), n(1, 2, 2), n(1, 4, 4))))
	gives(t, join, p(l(n(5, 1, 1)), l(n(7, 1, 2))), n(35, 1, 3))
	gives(t, join, p(l(n(often, 1, 1), n(1, 2, 0)), l(n(1, 2, 5), n(often, 3, 1))), n(1, 2, 5))
	gives(t, join, p(l(n(-2, 1, 1), n(1, 1, 2)), l(n(3, 1, 3), n(-2, 1, 4))), n(3, 1, 5))
	gives(t, join, p(l(n(-2, 1, 1)), l(n(-3, 1, 3))))
	// Pairs that add up to the same.
	gives(t, join, p(l(n(1, 1, 0), n(2, 1, 1), n(3, 1, 2)), l(n(1, 1, 0), n(10, 1, 1), n(100, 1, 2))), n(1, 1, 0), n(12, 1, 1), n(123, 1, 2), n(230, 1, 3), n(300, 1, 4))
	gives(t, join, p(l(n(2, 1, 5)), l(n(1, 1, -5), n(4, 1, 5))), n(2, 1, 0), n(8, 1, 10))
}

func TestP11_1_JoinsWithoutRoomInASum(t *testing.T) {
	join := of(api.KJoin)
	gives(t, join, p(l(n(2, 1, greatest)), l(n(3, 1, 1))), n(6, 1, over))
	gives(t, join, p(l(n(2, 1, greatest)), l(n(3, 1, 0))), n(6, 1, greatest))
	gives(t, join, p(l(n(2, 1, least)), l(n(3, 1, -1))), n(6, 1, over))
	gives(t, join, p(l(n(2, 1, -1)), l(n(3, 1, least))), n(6, 1, over))
	gives(t, join, p(l(n(2, 1, least)), l(n(3, 1, least))), n(6, 1, over))
	gives(t, join, p(l(n(2, 1, greatest)), l(n(3, 1, greatest))), n(6, 1, over))
	gives(t, join, p(l(n(1, 1, least), n(2, 1, greatest)), l(n(3, 1, least), n(5, 1, greatest))), n(3+10, 1, over), n(5+6, 1, -1))
	gives(t, join, p(l(n(1, 1, least+1)), l(n(3, 1, -1))), n(3, 1, least))
	gives(t, join, p(l(n(1, 1, greatest-1)), l(n(3, 1, 1))), n(3, 1, greatest))
	gives(t, join, p(l(n(1, 1, 1<<62), n(1, 2, -1<<62)), l(n(3, 1, 1<<62), n(1, 2, -1<<62))), n(3, 1, over), n(1, 2, least))
	// The error beside two records with that sum, and of each key its own.
	gives(t, join, p(l(n(1, 1, 1), n(2, 1, 5)), l(n(3, 1, least+1), n(7, 1, greatest))), n(3+7+14, 1, over), n(6, 1, least+6))
	gives(t, join, p(l(n(1, least, 1), n(1, 0, 1), n(1, greatest, 1)), l(n(1, least, greatest), n(1, 0, greatest), n(1, 1, greatest), n(2, greatest, greatest))), n(1, least, over), n(1, 0, over), n(2, greatest, over))
}

// Nothing comes of a kind that is none, and that is no lack of room, whatever is handed in.
func TestP11_1_NoKind(t *testing.T) {
	for _, kind := range none() {
		for _, ports := range [][][]api.Item{nil, {}, p(nil), p(some()), p(some(), other()), p(l(n(room+1, 1, 1)), l(n(often, 1, 1))), p(l(n(0, 1, 1)), nil, some())} {
			gives(t, of(kind), ports)
			gives(t, api.Node{Kind: kind, Arg: 1, Prog: emits(8)}, ports)
		}
	}
}

func TestP11_1_FewerPortsAndMore(t *testing.T) {
	behind := [][]api.Item{other(), some(), l(n(often, 1, 1)), l(n(-1, 1, 2)), l(n(0, 1, 1)), nil}
	for _, x := range nodes() {
		gives(t, x, nil)
		gives(t, x, p())
		for _, ports := range [][][]api.Item{p(nil), p(nil, nil), p(l(), nil), p(nil, l(), nil)} {
			gives(t, x, ports)
		}
		one, ok := holds(t, x, p(some()))
		if !ok {
			t.Fatalf("%v: no room", x)
		}
		gives(t, x, p(some(), nil), one...)
		two, ok := holds(t, x, p(some(), other()))
		if !ok {
			t.Fatalf("%v: no room", x)
		}
		for _, b := range behind {
			if portsOf(x.Kind) < 2 {
				gives(t, x, p(some(), b), one...)
			}
			gives(t, x, p(some(), other(), b), two...)
			gives(t, x, p(some(), other(), b, b), two...)
		}
	}
}

// Of a bag that isn't right nothing is there, be it of the one port or of the other one.
func TestP11_1_BagsThatAreNotRight(t *testing.T) {
	for _, x := range nodes() {
		first, _ := holds(t, x, p(some()))
		second, _ := holds(t, x, p(nil, some()))
		for _, w := range wrongBags() {
			gives(t, x, p(w))
			gives(t, x, p(w, w))
			gives(t, x, p(some(), w), first...)
			gives(t, x, p(w, some()), second...)
		}
	}
}

func TestP11_1_WhatIsThereLessThanOnce(t *testing.T) {
	away := l(n(-1, 1, 1), n(-often, 1, 2), n(-7, 2, 0), n(-1, 3, greatest))
	a, b := l(n(1, 1, 0), n(2, 1, 3), n(1, 2, 2)), l(n(3, 1, 1), n(1, 2, greatest), n(1, 3, 3))
	mixed := l(n(1, 1, 0), n(-1, 1, 1), n(-often, 1, 2), n(2, 1, 3), n(-5, 2, 1), n(1, 2, 2), n(-1, 9, 9))
	with := l(n(-4, -4, 4), n(3, 1, 1), n(-1, 1, 4), n(-often, 2, least), n(1, 2, greatest), n(1, 3, 3))
	for _, x := range nodes() {
		gives(t, x, p(away, away))
		want, _ := holds(t, x, p(a, b))
		gives(t, x, p(mixed, with), want...)
		gives(t, x, p(mixed, b), want...)
		gives(t, x, p(a, with), want...)
	}
}

func TestP11_1_Linear(t *testing.T) {
	linear := []int{api.KInput, api.KProg, api.KShift, api.KKeep, api.KConcat, api.KEnter, api.KLeave, api.KBack, api.KInspect, api.KSink}
	for kind := -3; kind <= 40; kind++ {
		if got := ops.Linear(kind); got != slices.Contains(linear, kind) {
			t.Errorf("Linear(%d) = %v", kind, got)
		}
	}
	for _, kind := range none() {
		if ops.Linear(kind) {
			t.Errorf("Linear(%d)", kind)
		}
	}
}

// Many bags by chance, right ones and others, of each operator.
func TestP11_1_ManyBags(t *testing.T) {
	c := chance(1)
	fit, none, long := map[int]int{}, map[int]int{}, 0
	all := nodes()
	for range 60000 {
		x := all[c.below(len(all))]
		if x.Kind == api.KShift && c.below(2) == 0 {
			x.Arg = c.value()
		}
		if got, ok := holds(t, x, c.ports()); ok {
			fit[x.Kind]++
			long = max(long, len(got))
		} else {
			none[x.Kind]++
		}
	}
	for kind := api.KInput; kind <= api.KSink; kind++ {
		if by := kind == api.KSum || kind == api.KCount || kind == api.KDistinct || kind == api.KTotal; fit[kind] == 0 || (none[kind] == 0) != by {
			t.Errorf("kind %d: %d times there was room, %d times none", kind, fit[kind], none[kind])
		}
	}
	if long < 8 {
		t.Errorf("the longest answer: %d", long)
	}
}
