package ops_test

import (
	"slices"
	"testing"

	"backwash/api"
	"backwash/bag"
	"backwash/ops"
)

// positive is a bag by chance of what is there, not too often.
func (c *chance) positive() []api.Item {
	var b []api.Item
	for range c.below(7) {
		b = bag.Add(b, r(int64(c.below(4))-1, c.value()), 1+c.below(4))
	}
	return b
}

// split a bag into two, by chance: each record's copies go to the one or to the other.
func (c *chance) split(b []api.Item) ([]api.Item, []api.Item) {
	var one, two []api.Item
	for _, i := range b {
		many := c.below(i.N + 1)
		one = bag.Add(one, i.Rec, many)
		two = bag.Add(two, i.Rec, i.N-many)
	}
	return one, two
}

// applied is what an operator makes, where there is room.
func applied(t *testing.T, x api.Node, ports [][]api.Item) []api.Item {
	t.Helper()
	b, ok := ops.Apply(x, ports)
	if !ok {
		t.Fatalf("Apply(%v, %s): no room", x, brief(ports))
	}
	return b
}

// linear operators of each kind.
func linear() []api.Node {
	var all []api.Node
	for _, x := range nodes() {
		if ops.Linear(x.Kind) {
			all = append(all, x)
		}
	}
	return all
}

func TestP11_2_TwoBagsTogether(t *testing.T) {
	a, b := l(n(2, 1, 2), n(1, 1, 3), n(1, 2, greatest)), l(n(1, 1, 2), n(4, 1, 5), n(1, 2, greatest), n(1, 3, least))
	c := chance(2)
	kinds := map[int]bool{}
	for _, x := range linear() {
		kinds[x.Kind] = true
		whole := applied(t, x, p(bag.Plus(a, b)))
		if parts := bag.Plus(applied(t, x, p(a)), applied(t, x, p(b))); !slices.Equal(whole, parts) {
			t.Errorf("%v: %s, of the parts %s", x, brief(whole), brief(parts))
		}
		for range 400 {
			one, two, first, second := c.positive(), c.positive(), c.positive(), c.positive()
			whole := applied(t, x, p(bag.Plus(one, two), bag.Plus(first, second)))
			parts := bag.Plus(applied(t, x, p(one, first)), applied(t, x, p(two, second)))
			if !slices.Equal(whole, parts) {
				t.Fatalf("%v of %s and %s, %s and %s: %s, of the parts %s", x, brief(one), brief(two), brief(first), brief(second), brief(whole), brief(parts))
			}
		}
	}
	if len(kinds) != 10 {
		t.Errorf("%d kinds", len(kinds))
	}
}

// Taken apart record by record, copy by copy.
func TestP11_2_TakenApart(t *testing.T) {
	c := chance(3)
	for _, x := range linear() {
		for range 200 {
			a, b := c.positive(), c.positive()
			whole := applied(t, x, p(a, b))
			one, two := c.split(a)
			first, second := c.split(b)
			if parts := bag.Plus(applied(t, x, p(one, first)), applied(t, x, p(two, second))); !slices.Equal(whole, parts) {
				t.Fatalf("%v of %s, %s: %s, of the parts %s", x, brief(a), brief(b), brief(whole), brief(parts))
			}
			var sum []api.Item
			for _, i := range a {
				for range i.N {
					sum = bag.Plus(sum, applied(t, x, p(bag.Of([]api.Rec{i.Rec}))))
				}
			}
			for _, i := range b {
				for range i.N {
					sum = bag.Plus(sum, applied(t, x, p(nil, bag.Of([]api.Rec{i.Rec}))))
				}
			}
			if !slices.Equal(whole, sum) {
				t.Fatalf("%v of %s, %s: %s, one by one %s", x, brief(a), brief(b), brief(whole), brief(sum))
			}
		}
	}
}

// Up to the room, and where the whole has none, though its parts have.
func TestP11_2_PartsAtTheRoom(t *testing.T) {
	half := l(n(room/2, 1, 2))
	for _, x := range []api.Node{of(api.KInput), of(api.KConcat), of(api.KSink), of(api.KBack), by(api.KShift, 1), by(api.KKeep, 2), does(emits(1)...)} {
		part := applied(t, x, p(half))
		if whole := applied(t, x, p(bag.Plus(half, half))); !slices.Equal(whole, bag.Plus(part, part)) || len(whole) != 1 || whole[0].N != room {
			t.Errorf("%v: %s", x, brief(whole))
		}
		misses(t, x, p(bag.Plus(half, l(n(room/2+1, 1, 2)))))
	}
}

// The others can't be taken apart: of each there are two bags that show it.
func TestP11_2_WhatIsNotLinear(t *testing.T) {
	a, b := l(n(1, 1, 2)), l(n(2, 1, 2), n(1, 1, 3))
	for kind := api.KInput; kind <= api.KSink; kind++ {
		if ops.Linear(kind) {
			continue
		}
		whole := applied(t, of(kind), p(bag.Plus(a, b), bag.Plus(a, b)))
		if parts := bag.Plus(applied(t, of(kind), p(a, a)), applied(t, of(kind), p(b, b))); slices.Equal(whole, parts) {
			t.Errorf("%d: %s", kind, brief(whole))
		}
	}
}

// byKeys are operators of which each key's records hang on that key's alone: all but KProg, which makes other keys.
func byKeys() []api.Node {
	var all []api.Node
	for _, x := range nodes() {
		if x.Kind != api.KProg {
			all = append(all, x)
		}
	}
	return all
}

// only the records of a key.
func only(b []api.Item, k int64) []api.Item {
	var of []api.Item
	for _, i := range b {
		if i.Rec.K == k {
			of = append(of, i)
		}
	}
	return of
}

func TestP11_2_EachKeyByItself(t *testing.T) {
	c := chance(4)
	for _, x := range byKeys() {
		for range 300 {
			a, b := c.positive(), c.positive()
			whole := applied(t, x, p(a, b))
			var parts []api.Item
			for k := int64(-2); k <= 3; k++ {
				part := applied(t, x, p(only(a, k), only(b, k)))
				if !slices.Equal(part, only(whole, k)) {
					t.Fatalf("%v of %s, %s: %s, of the key %d alone %s", x, brief(a), brief(b), brief(whole), k, brief(part))
				}
				parts = append(parts, part...)
			}
			if !slices.Equal(parts, whole) {
				t.Fatalf("%v of %s, %s: %s, of the keys %s", x, brief(a), brief(b), brief(whole), brief(parts))
			}
		}
	}
}

// What stands beside a key's records, be it without room in a sum, or less than once there, changes nothing in what comes of that key.
func TestP11_2_OtherKeysDoNotMatter(t *testing.T) {
	c := chance(5)
	for _, x := range byKeys() {
		for range 200 {
			a, b := c.positive(), c.positive()
			k := int64(c.below(4)) - 1
			want := only(applied(t, x, p(a, b)), k)
			for _, i := range c.positive() {
				if i.Rec.K != k {
					a = bag.Add(a, i.Rec, i.N-2*c.below(5))
					b = bag.Add(b, r(i.Rec.K, c.value()), i.N)
				}
			}
			if got := only(applied(t, x, p(a, b)), k); !slices.Equal(got, want) {
				t.Fatalf("%v of %s, %s: of the key %d %s, not %s", x, brief(a), brief(b), k, brief(got), brief(want))
			}
		}
	}
}

// A key's records come from it, whatever the key: no kind but KProg makes another one.
func TestP11_2_KeysStay(t *testing.T) {
	for _, x := range byKeys() {
		for _, k := range []int64{least, least + 1, -1, 0, 1, over, greatest - 1, greatest} {
			for _, v := range []int64{least, -1, 0, 1, greatest} {
				got, _ := holds(t, x, p(l(n(2, k, v)), l(n(3, k, v))))
				if len(only(got, k)) != len(got) {
					t.Errorf("%v of the key %d: %s", x, k, brief(got))
				}
			}
		}
	}
}
