package route_test

import (
	"math"
	"math/big"
	"slices"
	"testing"

	"backwash/api"
	"backwash/bag"
	"backwash/route"
)

const (
	top      = 1 << 31
	least    = math.MinInt64
	greatest = math.MaxInt64
)

// n is a record, so many times.
func n(many int, k, v int64) api.Item { return api.Item{Rec: api.Rec{K: k, V: v}, N: many} }

// l is a list of records that are counted.
func l(x ...api.Item) []api.Item { return x }

// p are the parts of a bag.
func p(parts ...[]api.Item) [][]api.Item { return parts }

// keys are the ones about 0, about the numbers of workers and their multiples, about both ends, and about powers of 2.
func keys() []int64 {
	all := []int64{1e9 + 7, -1e9 - 7, 1e18 + 9, -1e18 - 9}
	for k := int64(-200); k <= 200; k++ {
		all = append(all, k)
	}
	for k := int64(0); k < 130; k++ {
		all = append(all, least+k, greatest-k)
	}
	for shift := 8; shift < 63; shift++ {
		for k := int64(-2); k <= 2; k++ {
			all = append(all, 1<<shift+k, -(1<<shift)+k)
		}
	}
	return all
}

// wrongWorkers are no numbers of workers.
func wrongWorkers() []int {
	return []int{0, -1, -2, -3, -63, -64, -65, api.MaxWorkers + 1, api.MaxWorkers + 2, 2 * api.MaxWorkers, 1000, -1000, 1 << 31, -(1 << 31), 1 << 32, 1<<32 + 3, -(1 << 32) + 3, 1<<32 + 64,
		math.MaxInt, math.MaxInt - 1, math.MinInt, math.MinInt + 1, math.MinInt + 64}
}

// wrongBags are lists that are no right bags: out of order, twice, none times, too often, and all of this.
func wrongBags() [][]api.Item {
	return [][]api.Item{
		l(n(1, 2, 0), n(1, 1, 0)), l(n(1, 4, 2), n(1, 4, 1)), l(n(1, 3, 0), n(1, 0, 0), n(1, -3, 0), n(1, 6, 0)),
		l(n(1, 1, 1), n(1, 1, 1)), l(n(1, 1, 1), n(-1, 1, 1)), l(n(1, 1, 1), n(2, 2, 2), n(1, 1, 1)), l(n(1, 1, 1), n(1, 1, 1), n(1, 1, 1)),
		l(n(0, 1, 1)), l(n(0, 0, 0)), l(n(1, 0, 0), n(0, 1, 1), n(1, 2, 2)), l(n(0, -1, 1), n(0, -1, 1), n(0, 7, 0)),
		l(n(top+1, 5, 5)), l(n(-top-1, 5, 5)), l(n(math.MaxInt, -5, 5), n(math.MinInt, 5, 5)), l(n(top, 5, 5), n(top, 5, 5)),
		l(n(0, greatest, 0), n(top+1, least, 0), n(1, greatest, 0), n(0, greatest, 0), n(-top-1, 0, least), n(3, 0, greatest), n(3, least, 0)),
	}
}

// slowWorker of a key: what is left of it in numbers without an end, from 0 on.
func slowWorker(k int64, workers int) int {
	if workers < 1 || workers > 64 {
		return 0
	}
	left := new(big.Int).Rem(big.NewInt(k), big.NewInt(int64(workers)))
	if left.Sign() < 0 {
		left.Add(left, big.NewInt(int64(workers)))
	}
	return int(left.Int64())
}

// slowSplit goes through the bag once for each worker.
func slowSplit(b []api.Item, workers int) [][]api.Item {
	if workers < 1 || workers > 64 {
		return nil
	}
	var parts [][]api.Item
	for w := range workers {
		var part []api.Item
		for _, x := range b {
			if slowWorker(x.Rec.K, workers) == w {
				part = append(part, x)
			}
		}
		parts = append(parts, part)
	}
	return parts
}

// sameParts says whether these are as many parts, alike one by one, with nil as nothing.
func sameParts(a, b [][]api.Item) bool {
	return slices.EqualFunc(a, b, func(a, b []api.Item) bool { return slices.Equal(a, b) })
}

// brief tells the beginning of a list.
func brief[E any](list []E) []E {
	return list[:min(len(list), 20)]
}

// holds says so if the parts of a bag are not the slow ones, and answers them.
func holds(t *testing.T, b []api.Item, workers int) [][]api.Item {
	t.Helper()
	got, want := route.Split(b, workers), slowSplit(b, workers)
	if !sameParts(got, want) {
		t.Fatalf("Split(%v, %d) = %v, not %v", brief(b), workers, got, want)
	}
	return got
}

// chance is a row of numbers that is the same each time.
type chance uint64

// below n, from 0 on.
func (c *chance) below(n int) int {
	*c = *c*6364136223846793005 + 1442695040888963407
	return int(uint64(*c)>>33) % n
}

// key is a small one, one at an end, or any.
func (c *chance) key() int64 {
	switch c.below(4) {
	case 0:
		return least + int64(c.below(70))
	case 1:
		return greatest - int64(c.below(70))
	case 2:
		return int64(c.below(1<<31))<<32 ^ int64(c.below(1<<31))<<3 ^ -int64(c.below(2))
	}
	return int64(c.below(300)) - 150
}

// often is how many times a record is there: seldom at an end.
func (c *chance) often() int {
	switch c.below(8) {
	case 0:
		return top - c.below(3)
	case 1:
		return c.below(3) - top
	case 2:
		return -1 - c.below(5)
	}
	return 1 + c.below(5)
}

// items are any, in any order.
func (c *chance) items(most int) []api.Item {
	var b []api.Item
	for range c.below(most + 1) {
		b = append(b, n(c.often()-c.below(3), c.key(), int64(c.below(5)-2)))
	}
	return b
}

// bag is a right one.
func (c *chance) bag(most int) []api.Item {
	var b []api.Item
	for range c.below(most + 1) {
		b = bag.Add(b, api.Rec{K: c.key(), V: int64(c.below(5) - 2)}, c.often())
	}
	return b
}

func TestP13_1_TheExample(t *testing.T) {
	if w := route.Worker(-1, 4); w != 3 {
		t.Error(w)
	}
}

func TestP13_1_Worker(t *testing.T) {
	for _, c := range []struct {
		k          int64
		workers, w int
	}{
		{0, 1, 0}, {1, 1, 0}, {-1, 1, 0}, {least, 1, 0}, {greatest, 1, 0},
		{0, 2, 0}, {1, 2, 1}, {2, 2, 0}, {-1, 2, 1}, {-2, 2, 0}, {-3, 2, 1}, {least, 2, 0}, {greatest, 2, 1},
		{0, 3, 0}, {1, 3, 1}, {2, 3, 2}, {3, 3, 0}, {4, 3, 1}, {-1, 3, 2}, {-2, 3, 1}, {-3, 3, 0}, {-4, 3, 2}, {-5, 3, 1}, {-6, 3, 0}, {least, 3, 1}, {greatest, 3, 1},
		{0, 4, 0}, {3, 4, 3}, {4, 4, 0}, {-1, 4, 3}, {-4, 4, 0}, {-5, 4, 3}, {least, 7, 6}, {greatest, 7, 0}, {least, 10, 2}, {greatest, 10, 7},
		{0, 63, 0}, {62, 63, 62}, {63, 63, 0}, {64, 63, 1}, {-1, 63, 62}, {-63, 63, 0}, {-64, 63, 62}, {least, 63, 55}, {greatest, 63, 7},
		{0, 64, 0}, {63, 64, 63}, {64, 64, 0}, {65, 64, 1}, {-1, 64, 63}, {-63, 64, 1}, {-64, 64, 0}, {-65, 64, 63}, {least, 64, 0}, {least + 1, 64, 1}, {greatest, 64, 63}, {1 << 32, 64, 0}, {1 << 32, 63, 4},
	} {
		if w := route.Worker(c.k, c.workers); w != c.w {
			t.Errorf("Worker(%d, %d) = %d, not %d", c.k, c.workers, w, c.w)
		}
	}
}

func TestP13_1_WorkerOfManyKeys(t *testing.T) {
	for workers := 1; workers <= api.MaxWorkers; workers++ {
		for _, k := range keys() {
			if w, want := route.Worker(k, workers), slowWorker(k, workers); w != want {
				t.Fatalf("Worker(%d, %d) = %d, not %d", k, workers, w, want)
			}
		}
	}
	c := chance(13)
	for range 100000 {
		k, workers := c.key(), c.below(70)-3
		if w, want := route.Worker(k, workers), slowWorker(k, workers); w != want {
			t.Fatalf("Worker(%d, %d) = %d, not %d", k, workers, w, want)
		}
	}
}

// The workers take turns: the next key has the next worker, behind the last one stands the first one, below 0 as above.
func TestP13_1_KeysSideBySide(t *testing.T) {
	for workers := 1; workers <= api.MaxWorkers; workers++ {
		if w := route.Worker(0, workers); w != 0 {
			t.Fatalf("Worker(0, %d) = %d", workers, w)
		}
		for _, k := range keys() {
			if k == greatest {
				continue
			}
			if w, next := route.Worker(k, workers), route.Worker(k+1, workers); w < 0 || w >= workers || next != (w+1)%workers {
				t.Fatalf("of %d workers %d has %d, and %d the next key", workers, w, k, next)
			}
		}
	}
}

func TestP13_1_KeysAsFarApartAsTheWorkersAreMany(t *testing.T) {
	for workers := 1; workers <= api.MaxWorkers; workers++ {
		for _, k := range keys() {
			if k > greatest-int64(workers) {
				continue
			}
			if w, far := route.Worker(k, workers), route.Worker(k+int64(workers), workers); far != w {
				t.Fatalf("of %d workers %d has %d, and %d has %d", workers, w, k, far, k+int64(workers))
			}
		}
	}
}

func TestP13_1_WorkersAreFrom1ToMaxWorkers(t *testing.T) {
	b := l(n(2, least, 1), n(1, -3, 0), n(1, 0, 0), n(-1, 5, 0), n(1, 64, 7), n(1, greatest, 0))
	for _, workers := range wrongWorkers() {
		for _, k := range keys() {
			if w := route.Worker(k, workers); w != 0 {
				t.Fatalf("Worker(%d, %d) = %d", k, workers, w)
			}
		}
		for _, b := range append(wrongBags(), nil, b, b[:1]) {
			if parts := route.Split(b, workers); len(parts) != 0 {
				t.Fatalf("Split(%v, %d) = %v", b, workers, parts)
			}
		}
	}
	for _, workers := range []int{1, 2, api.MaxWorkers - 1, api.MaxWorkers} {
		if w := route.Worker(-1, workers); w != workers-1 {
			t.Errorf("Worker(-1, %d) = %d", workers, w)
		}
		if parts := route.Split(b, workers); len(parts) != workers {
			t.Errorf("Split(%v, %d) = %v", b, workers, parts)
		}
	}
}

func TestP13_1_Split(t *testing.T) {
	b := l(n(1, least, 0), n(-3, -4, 9), n(2, -1, -1), n(4, -1, 3), n(1, 0, 0), n(1, 1, 5), n(top, 2, 0), n(-top, 2, 1), n(1, 7, 7), n(1, greatest, greatest))
	for _, c := range []struct {
		b       []api.Item
		workers int
		parts   [][]api.Item
	}{
		{b, 1, p(b)},
		{b, 2, p(l(b[0], b[1], b[4], b[6], b[7]), l(b[2], b[3], b[5], b[8], b[9]))},
		{b, 3, p(l(b[4]), l(b[0], b[5], b[8], b[9]), l(b[1], b[2], b[3], b[6], b[7]))},
		{b, 4, p(l(b[0], b[1], b[4]), l(b[5]), l(b[6], b[7]), l(b[2], b[3], b[8], b[9]))},
		{b, 5, p(l(b[4]), l(b[1], b[5]), l(b[0], b[6], b[7], b[8], b[9]), nil, l(b[2], b[3]))},
		{nil, 1, p(nil)}, {nil, 4, p(nil, nil, nil, nil)}, {l(), 2, p(nil, nil)},
		{l(n(1, 5, 5)), 1, p(l(n(1, 5, 5)))}, {l(n(-7, 5, 5)), 3, p(nil, nil, l(n(-7, 5, 5)))}, {l(n(1, -5, 0)), 3, p(nil, l(n(1, -5, 0)), nil)},
		{l(n(1, -6, 0), n(2, -3, 0), n(3, 0, 0), n(4, 3, 0), n(4, 6, 0)), 3, p(l(n(1, -6, 0), n(2, -3, 0), n(3, 0, 0), n(4, 3, 0), n(4, 6, 0)), nil, nil)},
		{l(n(1, -1, 0), n(2, -1, 1), n(3, -1, 2)), 4, p(nil, nil, nil, l(n(1, -1, 0), n(2, -1, 1), n(3, -1, 2)))},
		{l(n(1, 1, 2), n(1, 2, 1), n(1, 3, 3)), 4, p(nil, l(n(1, 1, 2)), l(n(1, 2, 1)), l(n(1, 3, 3)))},
		{l(n(1, 0, 1), n(1, 2, 0)), 4, p(l(n(1, 0, 1)), nil, l(n(1, 2, 0)), nil)},
	} {
		if parts := route.Split(c.b, c.workers); !sameParts(parts, c.parts) {
			t.Errorf("Split(%v, %d) = %v, not %v", c.b, c.workers, parts, c.parts)
		}
		holds(t, c.b, c.workers)
	}
}

// As many parts as there are workers, though most of them have nothing.
func TestP13_1_SplitOfNothingAndOfOneItem(t *testing.T) {
	for workers := 1; workers <= api.MaxWorkers; workers++ {
		if parts := route.Split(nil, workers); len(parts) != workers || !sameParts(parts, make([][]api.Item, workers)) {
			t.Fatalf("Split(nil, %d) = %v", workers, parts)
		}
		for _, k := range keys() {
			want := make([][]api.Item, workers)
			want[slowWorker(k, workers)] = l(n(-2, k, 1))
			if parts := route.Split(l(n(-2, k, 1)), workers); !sameParts(parts, want) {
				t.Fatalf("Split of %d, %d = %v", k, workers, parts)
			}
		}
	}
}

// A list that isn't right is split as it stands: nothing is put in order, counted together or left out.
func TestP13_1_SplitOfWhatIsNotRight(t *testing.T) {
	x, y, z := n(1, 3, 1), n(0, 1, 1), n(top+1, -1, 1)
	for _, c := range []struct {
		b     []api.Item
		parts [][]api.Item
	}{
		{l(x, y, z, x), p(nil, l(x, y, z, x))},
		{l(x, n(1, 0, 5), n(1, 0, 4), y, n(1, -2, 0), x), p(l(n(1, 0, 5), n(1, 0, 4), n(1, -2, 0)), l(x, y, x))},
		{l(z, z, y, y), p(nil, l(z, z, y, y))},
		{l(n(0, 2, 2), n(0, 1, 1), n(0, 0, 0)), p(l(n(0, 2, 2), n(0, 0, 0)), l(n(0, 1, 1)))},
	} {
		if parts := route.Split(c.b, 2); !sameParts(parts, c.parts) {
			t.Errorf("Split(%v, 2) = %v, not %v", c.b, parts, c.parts)
		}
	}
	for _, b := range wrongBags() {
		for workers := 1; workers <= api.MaxWorkers; workers++ {
			holds(t, b, workers)
		}
	}
}

// Each short list of items that are right and that are not, side by side in any order.
func TestP13_1_SplitOfAllShortLists(t *testing.T) {
	few := l(n(1, -1, 4), n(-1, 1, 2), n(top, 1, 2), n(0, 2, 0), n(-top-1, 3, 0), n(2, least, 3))
	var grow func(b []api.Item)
	grow = func(b []api.Item) {
		for _, workers := range []int{0, 1, 2, 3, 4, 64, 65} {
			holds(t, b, workers)
		}
		if len(b) < 4 {
			for _, x := range few {
				grow(append(slices.Clone(b), x))
			}
		}
	}
	grow(nil)
}

func TestP13_1_ManyBags(t *testing.T) {
	c := chance(131)
	for range 3000 {
		workers := c.below(68) - 1
		holds(t, c.bag(40), workers)
		holds(t, c.items(40), workers)
	}
}

// each says so if not every item of a list is at its worker, in the list's order: from the parts the list comes again, item by item.
func each(t *testing.T, b []api.Item, parts [][]api.Item) {
	t.Helper()
	rest, workers := slices.Clone(parts), len(parts)
	for i, x := range b {
		w := slowWorker(x.Rec.K, workers)
		if len(rest[w]) == 0 || rest[w][0] != x {
			t.Fatalf("of %d workers %d does not have item %d, %v, next", workers, w, i, x)
		}
		rest[w] = rest[w][1:]
	}
	for w, part := range rest {
		if len(part) > 0 {
			t.Fatalf("of %d workers %d has %v beyond the bag", workers, w, brief(part))
		}
	}
}

func TestP13_1_LongBags(t *testing.T) {
	many := api.MaxItems + 5
	var row, column, turned []api.Item
	for i := range many {
		row = append(row, n(1, int64(i-many/2), int64(i)))
		column = append(column, n(1, -5, int64(i)))
		turned = append(turned, n(i%3-1, int64(many-i), int64(i%7)))
	}
	for _, b := range [][]api.Item{row, column, turned} {
		for _, workers := range []int{1, 2, 3, 7, api.MaxWorkers - 1, api.MaxWorkers} {
			parts := route.Split(b, workers)
			if len(parts) != workers {
				t.Fatalf("%d parts of %d workers", len(parts), workers)
			}
			each(t, b, parts)
		}
	}
}

// together are parts put together in some order.
func together(parts [][]api.Item, order []int) []api.Item {
	var b []api.Item
	for _, i := range order {
		b = bag.Plus(b, parts[i])
	}
	return b
}

// orders are the order of the parts, the one turned around, and one by chance.
func (c *chance) orders(parts int) [][]int {
	var up []int
	for i := range parts {
		up = append(up, i)
	}
	down, mixed := slices.Clone(up), slices.Clone(up)
	slices.Reverse(down)
	for i := range mixed {
		j := c.below(i + 1)
		mixed[i], mixed[j] = mixed[j], mixed[i]
	}
	return [][]int{up, down, mixed}
}

// makes says so if a right bag's parts are not right, or don't make the bag.
func makes(t *testing.T, c *chance, b []api.Item, workers int) {
	t.Helper()
	if !bag.Right(b) {
		t.Fatalf("no right bag: %v", brief(b))
	}
	parts := route.Split(b, workers)
	if len(parts) != workers {
		t.Fatalf("%d parts of %d workers", len(parts), workers)
	}
	for w, part := range parts {
		if !bag.Right(part) {
			t.Fatalf("of %d workers %d has no right bag: %v of %v", workers, w, brief(part), brief(b))
		}
	}
	for _, order := range c.orders(workers) {
		if whole := together(parts, order); !bag.Same(whole, b) {
			t.Fatalf("the parts of %d workers make %v, not %v", workers, brief(whole), brief(b))
		}
	}
}

func TestP13_2_PartsMakeTheBag(t *testing.T) {
	c := chance(7)
	for _, b := range [][]api.Item{
		nil, l(n(1, 0, 0)), l(n(-1, least, least)), l(n(top, greatest, greatest)), l(n(-top, -1, 0)),
		l(n(1, 1, 1), n(1, 1, 2), n(1, 1, 3)), l(n(1, -1, 1), n(1, 0, 0), n(1, 1, -1)), l(n(1, 0, 0), n(1, 64, 0), n(1, 128, 0)), l(n(3, -64, 0), n(2, -63, 0), n(1, -1, 0)),
		l(n(top, least, 0), n(-top, -1, 0), n(top, 0, least), n(-top, 0, greatest), n(top, greatest, 0)),
	} {
		for workers := 1; workers <= api.MaxWorkers; workers++ {
			makes(t, &c, b, workers)
		}
	}
}

func TestP13_2_PartsOfManyBags(t *testing.T) {
	c := chance(132)
	for range 3000 {
		makes(t, &c, c.bag(40), 1+c.below(api.MaxWorkers))
	}
}

func TestP13_2_PartsOfALongBag(t *testing.T) {
	c := chance(5)
	var b []api.Item
	for k := range int64(api.MaxItems / 4) {
		for v := range int64(5) {
			b = append(b, n(c.often(), k-1000, v*v-3))
		}
	}
	for _, workers := range []int{1, 2, 3, 10, api.MaxWorkers - 1, api.MaxWorkers} {
		makes(t, &c, b, workers)
	}
}

// All of a key is in one part: no record of it is elsewhere.
func TestP13_2_AllOfAKeyIsInOnePart(t *testing.T) {
	c := chance(77)
	for range 1000 {
		b, workers := c.bag(40), 1+c.below(api.MaxWorkers)
		has := map[int64]int{}
		for w, part := range route.Split(b, workers) {
			for _, x := range part {
				if at, ok := has[x.Rec.K]; ok && at != w {
					t.Fatalf("of %d workers both %d and %d have the key %d", workers, at, w, x.Rec.K)
				}
				has[x.Rec.K] = w
			}
		}
	}
}

// roomy is a bag with spare room behind it, and the whole of that room.
func roomy(b []api.Item) (list, whole []api.Item) {
	whole = slices.Concat(b, l(n(7, 7, 7), n(0, 0, 0), n(9, -1, 9), n(5, greatest, 5)))
	return whole[:len(b)], whole
}

func TestP13_1_WhatIsHandedInStays(t *testing.T) {
	c := chance(3)
	for i := range 2000 {
		b := c.items(20)
		if i%2 == 0 {
			b = c.bag(20)
		}
		list, whole := roomy(b)
		before, workers := slices.Clone(whole), c.below(68)-1
		parts := holds(t, list, workers)
		if !slices.Equal(whole, before) {
			t.Fatalf("Split changed %v to %v", before, whole)
		}
		if !sameParts(parts, route.Split(b, workers)) {
			t.Fatalf("spare room matters: %v", parts)
		}
	}
}

// scribble over a list and all of its spare room.
func scribble(b []api.Item) {
	b = b[:cap(b)]
	for i := range b {
		b[i] = n(-99, 99, 99)
	}
}

// What is written over a part, or behind it, is in no other part, not in the bag, and in no later answer.
func TestP13_1_PartsAreTheirOwn(t *testing.T) {
	c := chance(4)
	for range 1000 {
		b, workers := c.bag(30), 1+c.below(api.MaxWorkers)
		list, whole := roomy(b)
		before, want := slices.Clone(whole), slowSplit(b, workers)
		first, second := route.Split(list, workers), route.Split(list, workers)
		for w := range first {
			scribble(first[w])
			want[w] = l()
			first[w] = nil
			if !sameParts(first, want) {
				t.Fatalf("part %d of %d shares memory with another one", w, workers)
			}
		}
		if !slices.Equal(whole, before) {
			t.Fatalf("the parts of %d share memory with the bag", workers)
		}
		scribble(list)
		if !sameParts(second, slowSplit(b, workers)) {
			t.Fatalf("the parts of %d workers share memory with the bag or the parts told before: %v", workers, second)
		}
	}
}

// The list of parts is new, too: it may be put behind without touching another answer's.
func TestP13_1_TheListOfPartsIsItsOwn(t *testing.T) {
	for workers := 1; workers <= api.MaxWorkers; workers++ {
		b := l(n(1, 0, 0), n(1, 1, 0), n(1, 63, 0))
		first, second := route.Split(b, workers), route.Split(b, workers)
		for i := range first {
			first[i] = l(n(5, 5, 5))
		}
		if !sameParts(second, slowSplit(b, workers)) {
			t.Fatalf("of %d workers: %v", workers, second)
		}
	}
}
