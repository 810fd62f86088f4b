package cell_test

import (
	"fmt"
	"maps"
	"slices"
	"testing"

	"backwash/api"
	"backwash/cell"
	"backwash/ops"
)

// often is how often a record may be there, and be taken away ahead of being there.
const often = 1 << 31

// at is a timestamp.
func at(c ...int) api.Time {
	t := api.Time{D: len(c)}
	copy(t.C[:], c)
	return t
}

// r is a record, n an item, l a bag, c a cell; of and by are operators, the latter with a number; saw, saw1 and both are what came to port 0, to port 1, and to each.
func r(k, v int64) api.Rec               { return api.Rec{K: k, V: v} }
func n(many int, k, v int64) api.Item    { return api.Item{Rec: r(k, v), N: many} }
func l(items ...api.Item) []api.Item     { return items }
func c(slots ...api.Slot) []api.Slot     { return slots }
func of(kind int) api.Node               { return api.Node{Kind: kind} }
func by(kind int, arg int64) api.Node    { return api.Node{Kind: kind, Arg: arg} }
func in(op int) api.Ins                  { return api.Ins{Op: op} }
func times(all ...api.Time) []api.Time   { return all }
func saw(b ...api.Item) [2][]api.Item    { return [2][]api.Item{b} }
func saw1(b ...api.Item) [2][]api.Item   { return [2][]api.Item{nil, b} }
func both(a, b []api.Item) [2][]api.Item { return [2][]api.Item{a, b} }

// stale is a slot that has to be made, again one that was made before, made one that stands as it was made.
func stale(t api.Time, in [2][]api.Item, sent ...api.Item) api.Slot {
	return api.Slot{Time: t, In: in, Sent: sent, Dirty: true}
}
func again(t api.Time, in [2][]api.Item, sent ...api.Item) api.Slot {
	return api.Slot{Time: t, In: in, Sent: sent, Dirty: true, Fired: true}
}
func made(t api.Time, in [2][]api.Item, sent ...api.Item) api.Slot {
	return api.Slot{Time: t, In: in, Sent: sent, Fired: true}
}

// one is a slot with one record, put beside others where it plays no part what it is.
func one(t api.Time) api.Slot { return made(t, saw(n(1, 1, 1)), n(1, 1, 1)) }

// kinds of operators, and a few that are none.
func kinds() []int {
	return []int{1, 2, 3, 4, 5, 6, 7, 8, 9, 10, 11, 12, 13, 14, 15, 0, 16, -1, 1 << 40}
}

// nodes of each kind, those that have numbers or programs with some.
func nodes() []api.Node {
	var all []api.Node
	for _, kind := range kinds() {
		all = append(all, of(kind))
	}
	swap := []api.Ins{in(api.OpVal), in(api.OpKey), in(api.OpEmit), in(api.OpKey), in(api.OpVal), in(api.OpEmit)}
	return append(all, by(api.KShift, 1), by(api.KShift, 1<<63-1), by(api.KKeep, 2), by(api.KKeep, 1), api.Node{Kind: api.KProg, Prog: swap}, api.Node{Kind: api.KTotal, Arg: 5, Scope: 2})
}

// wrongTimes are timestamps that are not right.
func wrongTimes() []api.Time {
	return []api.Time{{}, {D: -1}, {D: 5}, {D: 1 << 40}, at(-1), at(1<<20 + 1), at(0, 65), at(0, 0, 65), at(0, 0, 0, 65), at(0, -1), at(1, 2, 3, -1), {D: 1, C: [4]int{0, 1}}, {D: 3, C: [4]int{1, 1, 1, 1}}, {C: [4]int{1}}}
}

// wrongBags are lists that are no right bags.
func wrongBags() [][]api.Item {
	return [][]api.Item{
		l(n(0, 1, 1)), l(n(1, 1, 1), n(0, 1, 2)), l(n(often+1, 1, 1)), l(n(-often-1, 1, 1)), l(n(-1<<63, 1, 1)), l(n(1<<62, 1, 1), n(1, 2, 1)),
		l(n(1, 1, 1), n(1, 1, 1)), l(n(1, 1, 2), n(1, 1, 1)), l(n(1, 2, 1), n(1, 1, 2)), l(n(1, 1, 1), n(1, 3, 1), n(1, 2, 1)),
	}
}

// rightCells are cells of all kinds that are right.
func rightCells() [][]api.Slot {
	return [][]api.Slot{
		nil, c(), c(one(at(0))), c(one(at(0)), one(at(1))), c(stale(at(3), saw(n(-1, 1, 1)))), c(stale(at(3), saw1(n(often, 1, 1)))), c(made(at(3), saw(), n(-often, 1, 1))),
		c(api.Slot{Time: at(1<<20, 64, 64, 64), Sent: l(n(1, 2, 2))}), c(one(at(0)), one(at(0, 0)), one(at(0, 0, 0)), one(at(0, 0, 0, 0)), one(at(0, 0, 0, 1)), one(at(0, 1)), one(at(0, 64)), one(at(1)), one(at(1<<20))),
		c(again(at(1), both(l(n(1, 1, 1), n(2, 1, 2)), l(n(-3, 1, 1))), n(4, 0, 9), n(1, 1, 2)), stale(at(2), saw(n(1, 1, 2)), n(1, 1, 2)), made(at(2, 5), saw(n(9, 9, 9))), one(at(4))),
		c(made(at(1, 2), saw(n(1, 1, 1)), n(1, 1, 1)), again(at(1, 3), saw(n(1, 1, 1)), n(1, 1, 2)), made(at(2, 0), saw(n(1, 1, 1)), n(1, 1, 1)), stale(at(2, 3), saw1(n(1, 1, 1)))),
	}
}

// wrongCells are cells that are not right, by each of the reasons.
func wrongCells() [][]api.Slot {
	all := [][]api.Slot{
		// Out of the order,
		c(one(at(1)), one(at(0))), c(one(at(0)), one(at(2)), one(at(1))), c(one(at(0, 1)), one(at(0))), c(one(at(0, 1)), one(at(0, 0))), c(one(at(1, 0)), one(at(0, 9))), c(one(at(0)), one(at(1, 0, 0)), one(at(1))),
		// a timestamp twice,
		c(one(at(0)), one(at(0))), c(one(at(0)), one(at(1)), one(at(1))), c(one(at(1, 2)), stale(at(1, 2), saw(n(1, 1, 2)))), c(one(at(0)), one(at(1)), one(at(0))),
		// a slot that is empty.
		c(api.Slot{Time: at(0)}), c(stale(at(0), saw())), c(one(at(0)), made(at(1), both(l(), l()))), c(again(at(0), saw()), one(at(1))), c(one(at(0)), api.Slot{Time: at(1)}, one(at(2))),
	}
	for _, t := range wrongTimes() {
		all = append(all, c(one(t)), c(one(at(0)), one(t)), c(one(t), one(at(1))), c(stale(t, saw(n(1, 1, 1))), stale(at(1), saw(n(1, 1, 1)))))
	}
	for _, b := range wrongBags() {
		all = append(all, c(stale(at(0), saw(b...))), c(stale(at(0), saw1(b...))), c(made(at(0), saw(n(1, 1, 1)), b...)), c(one(at(0)), stale(at(1), both(l(n(1, 1, 1)), b)), one(at(2))), c(stale(at(0), saw(n(1, 1, 1))), again(at(1), saw(b...), n(1, 1, 1))))
	}
	return all
}

// slowTime: may a timestamp be?
func slowTime(t api.Time) bool {
	if t.D < 1 || t.D > 4 || t.C[0] < 0 || t.C[0] > 1<<20 {
		return false
	}
	for i := 1; i < 4; i++ {
		if t.C[i] < 0 || t.C[i] > 64 || i >= t.D && t.C[i] != 0 {
			return false
		}
	}
	return true
}

// upTo: is the one at or before the other? Both are right.
func upTo(a, b api.Time) bool {
	return a.D == b.D && a.C[0] <= b.C[0] && a.C[1] <= b.C[1] && a.C[2] <= b.C[2] && a.C[3] <= b.C[3]
}

// ahead: is the one ahead of the other in the one order? Both are right.
func ahead(a, b api.Time) bool {
	return slices.Compare(a.C[:a.D], b.C[:b.D]) < 0
}

// slowBag: is it a right bag?
func slowBag(b []api.Item) bool {
	for i, x := range b {
		if x.N == 0 || x.N < -often || x.N > often {
			return false
		}
		for _, y := range b[:i] {
			if y.Rec.K > x.Rec.K || y.Rec.K == x.Rec.K && y.Rec.V >= x.Rec.V {
				return false
			}
		}
	}
	return true
}

// slowRight asks of each slot all that the chapter says, and of each two of them how they stand.
func slowRight(all []api.Slot) bool {
	for i, s := range all {
		if !slowTime(s.Time) || !slowBag(s.In[0]) || !slowBag(s.In[1]) || !slowBag(s.Sent) || len(s.In[0])+len(s.In[1])+len(s.Sent) == 0 {
			return false
		}
		for _, x := range all[:i] {
			if !ahead(x.Time, s.Time) {
				return false
			}
		}
	}
	return true
}

// pile of records: how often each is there, in no order.
type pile map[api.Rec]int

// add a record, unless it would be there too often.
func (p pile) add(x api.Rec, many int) {
	if sum := p[x] + many; -often <= sum && sum <= often {
		p[x] = sum
	}
}

// all of a bag are added, more times as often.
func (p pile) all(b []api.Item, more int) {
	for _, x := range b {
		p.add(x.Rec, more*x.N)
	}
}

// bag of a pile: one after the other the record is picked that no other one is ahead of.
func (p pile) bag(least int) []api.Item {
	var b []api.Item
	for x, many := range p {
		if many != 0 && many >= least {
			b = append(b, api.Item{Rec: x, N: many})
		}
	}
	slices.SortFunc(b, func(x, y api.Item) int {
		return slices.Compare([]int64{x.Rec.K, x.Rec.V}, []int64{y.Rec.K, y.Rec.V})
	})
	return b
}

// piled is a bag as a pile.
func piled(b []api.Item) pile {
	p := pile{}
	p.all(b, 1)
	return p
}

// loose are the slots of a cell, in no order.
type loose map[api.Time]api.Slot

// loosened is a cell, slot by slot.
func loosened(all []api.Slot) loose {
	m := loose{}
	for _, s := range all {
		m[s.Time] = s
	}
	return m
}

// cell of loose slots: those that are empty are gone.
func (m loose) cell() []api.Slot {
	var all []api.Slot
	for s := range maps.Values(m) {
		if len(s.In[0])+len(s.In[1])+len(s.Sent) == 0 {
			continue
		}
		i := 0
		for i < len(all) && ahead(all[i].Time, s.Time) {
			i++
		}
		all = slices.Insert(all, i, s)
	}
	return all
}

// slowCome puts all slots anew.
func slowCome(all []api.Slot, kind, port int, t api.Time, x api.Rec, many int) ([]api.Slot, bool, bool) {
	if !slowRight(all) || port != 0 && port != 1 || !slowTime(t) || many == 0 || many < -often || many > often {
		return all, false, false
	}
	m, late := loosened(all), false
	s := m[t]
	s.Time = t
	p := piled(s.In[port])
	p.add(x, many)
	s.In[port] = p.bag(-often)
	m[t] = s
	for u, s := range m {
		if u == t || kind == 14 && upTo(t, u) {
			if s.Fired && !s.Dirty {
				late = true
			}
			s.Dirty = true
			m[u] = s
		}
	}
	return m.cell(), late, true
}

// slowMake puts all slots anew.
func slowMake(all []api.Slot, x api.Node, t api.Time, lazy bool) ([]api.Slot, []api.Item, []api.Item, bool) {
	m := loosened(all)
	s, there := m[t]
	if !slowRight(all) || !there || !s.Dirty {
		return all, nil, nil, false
	}
	bags := [][]api.Item{s.In[0], s.In[1]}
	if x.Kind == 14 {
		p := pile{}
		for _, u := range all {
			if upTo(u.Time, t) {
				p.all(u.In[0], 1)
			}
		}
		bags[1] = p.bag(-often)
	}
	sent, ok := ops.Apply(x, bags)
	if !ok {
		return all, nil, nil, false
	}
	taken, given := slowChanges(s.Sent, sent, lazy)
	s.Sent, s.Dirty, s.Fired = sent, false, true
	m[t] = s
	return m.cell(), taken, given, true
}

// slowChanges record by record.
func slowChanges(was, is []api.Item, lazy bool) (taken, given []api.Item) {
	if !lazy && maps.Equal(piled(was), piled(is)) {
		return nil, nil
	}
	back, gift := piled(was), piled(is)
	if lazy {
		back.all(is, -1)
		gift.all(was, -1)
	}
	return back.bag(1), gift.bag(1)
}

// slowDrop puts all slots anew.
func slowDrop(all []api.Slot, kind int, before []api.Time) []api.Slot {
	if !slowRight(all) {
		return all
	}
	m := loosened(all)
	for t, s := range m {
		covered := slices.ContainsFunc(before, func(u api.Time) bool { return slowTime(u) && upTo(u, t) })
		if s.Dirty || covered {
			continue
		}
		if s.Sent = nil; kind != 14 {
			s.In = [2][]api.Item{}
		}
		m[t] = s
	}
	return m.cell()
}

// sameSlot: are they alike, with nil as nothing?
func sameSlot(x, y api.Slot) bool {
	return x.Time == y.Time && x.Dirty == y.Dirty && x.Fired == y.Fired && slices.Equal(x.In[0], y.In[0]) && slices.Equal(x.In[1], y.In[1]) && slices.Equal(x.Sent, y.Sent)
}

// same cells?
func same(a, b []api.Slot) bool { return slices.EqualFunc(a, b, sameSlot) }

// brief tells of the first slots of a cell, and of each of their bags the first items.
func brief(all []api.Slot) string {
	var told []any
	for _, s := range all[:min(len(all), 8)] {
		told = append(told, s.Time.C[:max(0, min(s.Time.D, 4))], short(s.In[0]), short(s.In[1]), short(s.Sent), s.Dirty, s.Fired, ";")
	}
	return fmt.Sprint(told...)
}

// short are the first items of a bag.
func short(b []api.Item) []api.Item { return b[:min(len(b), 8)] }

// comes says so if Come does not answer as the slow one, and answers what it answers.
func comes(t *testing.T, all []api.Slot, kind, port int, u api.Time, x api.Rec, many int) ([]api.Slot, bool, bool) {
	t.Helper()
	got, late, ok := cell.Come(all, kind, port, u, x, many)
	want, wantLate, wanted := slowCome(all, kind, port, u, x, many)
	if late != wantLate || ok != wanted || !same(got, want) {
		t.Fatalf("Come(%s, %d, %d, %v, %v, %d) = %s, %t, %t, not %s, %t, %t", brief(all), kind, port, u, x, many, brief(got), late, ok, brief(want), wantLate, wanted)
	}
	return got, late, ok
}

// makes says so if Make does not answer as the slow one, and answers what it answers.
func makes(t *testing.T, all []api.Slot, x api.Node, u api.Time, lazy bool) ([]api.Slot, []api.Item, []api.Item, bool) {
	t.Helper()
	got, taken, given, ok := cell.Make(all, x, u, lazy)
	want, wantTaken, wantGiven, wanted := slowMake(all, x, u, lazy)
	if ok != wanted || !same(got, want) || !slices.Equal(taken, wantTaken) || !slices.Equal(given, wantGiven) {
		t.Fatalf("Make(%s, %v, %v, %t) = %s, %v, %v, %t, not %s, %v, %v, %t", brief(all), x, u, lazy, brief(got), short(taken), short(given), ok, brief(want), short(wantTaken), short(wantGiven), wanted)
	}
	return got, taken, given, ok
}

// drops says so if Drop does not answer as the slow one, and answers what it answers.
func drops(t *testing.T, all []api.Slot, kind int, before ...api.Time) []api.Slot {
	t.Helper()
	got, want := cell.Drop(all, kind, before), slowDrop(all, kind, before)
	if !same(got, want) {
		t.Fatalf("Drop(%s, %d, %v) = %s, not %s", brief(all), kind, before, brief(got), brief(want))
	}
	return got
}

// tells says so if Right, Next, Stale or, at its timestamps and others, At does not answer as the chapter says.
func tells(t *testing.T, all []api.Slot) {
	t.Helper()
	right := slowRight(all)
	if got := cell.Right(all); got != right {
		t.Fatalf("Right(%s) = %t", brief(all), got)
	}
	var dirty []api.Time
	for _, s := range all {
		if right && s.Dirty {
			dirty = append(dirty, s.Time)
		}
	}
	if got := cell.Stale(all); !slices.Equal(got, dirty) {
		t.Fatalf("Stale(%s) = %v, not %v", brief(all), got, dirty)
	}
	next, ok := cell.Next(all)
	if ok != (len(dirty) > 0) || ok && next != dirty[0] || !ok && next != (api.Time{}) {
		t.Fatalf("Next(%s) = %v, %t of %v", brief(all), next, ok, dirty)
	}
	for _, u := range near(all) {
		s, ok := cell.At(all, u)
		want, wanted := loosened(all)[u]
		if !right {
			want, wanted = api.Slot{}, false
		}
		if ok != wanted || !sameSlot(s, want) {
			t.Fatalf("At(%s, %v) = %v, %t", brief(all), u, s, ok)
		}
	}
}

// near are the timestamps of a cell, those beside them, and wrong ones.
func near(all []api.Slot) []api.Time {
	l := append(wrongTimes(), at(0), at(0, 0), at(1<<20))
	for _, s := range all {
		l = append(l, s.Time)
		for i := range 4 {
			u, v := s.Time, s.Time
			u.C[i]++
			v.C[i]--
			l = append(l, u, v)
		}
		u, v := s.Time, s.Time
		u.D++
		v.D--
		l = append(l, u, v)
	}
	return l
}
