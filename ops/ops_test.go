package ops_test

import (
	"cmp"
	"math"
	"math/big"
	"slices"
	"testing"

	"backwash/api"
	"backwash/ops"
	"backwash/prog"
)

const (
	least    = math.MinInt64
	greatest = math.MaxInt64
	over     = least + 2 // the value that tells an error of reckoning
	often    = 1 << 31   // how often a record may be there
	room     = 1 << 16   // how many records may come
)

// r is a record.
func r(k, v int64) api.Rec { return api.Rec{K: k, V: v} }

// n is a record, so many times.
func n(many int, k, v int64) api.Item { return api.Item{Rec: r(k, v), N: many} }

// l is a list of records that are counted.
func l(x ...api.Item) []api.Item { return x }

// p are the bags of an operator's ports.
func p(bags ...[]api.Item) [][]api.Item { return bags }

// of is an operator of a kind.
func of(kind int) api.Node { return api.Node{Kind: kind} }

// by is an operator with a number.
func by(kind int, arg int64) api.Node { return api.Node{Kind: kind, Arg: arg} }

// does is a KProg with these instructions.
func does(code ...api.Ins) api.Node { return api.Node{Kind: api.KProg, Prog: code} }

// in is an instruction without a number.
func in(op int) api.Ins { return api.Ins{Op: op} }

// push is an OpPush.
func push(n int64) api.Ins { return api.Ins{Op: api.OpPush, N: n} }

// emits is a program that emits its record so many times.
func emits(many int) []api.Ins {
	return slices.Repeat([]api.Ins{in(api.OpKey), in(api.OpVal), in(api.OpEmit)}, many)
}

// none are kinds that are none of the fifteen.
func none() []int {
	return []int{0, -1, 16, 17, 99, -15, 1 << 32, math.MaxInt, math.MinInt}
}

// plain are the kinds that give what comes to their port 0 as it is.
func plain() []int {
	return []int{api.KInput, api.KEnter, api.KLeave, api.KBack, api.KInspect, api.KSink}
}

// nodes are operators of each of the fifteen kinds, and some that are none.
func nodes() []api.Node {
	all := []api.Node{
		by(api.KShift, 0), by(api.KShift, 1), by(api.KShift, -1), by(api.KShift, greatest), by(api.KShift, least), by(api.KShift, -7),
		by(api.KKeep, least), by(api.KKeep, -1), by(api.KKeep, 0), by(api.KKeep, 1), by(api.KKeep, 2), by(api.KKeep, 3), by(api.KKeep, greatest),
		does(), does(emits(1)...), does(emits(3)...), does(in(api.OpVal), in(api.OpKey), in(api.OpEmit)), does(in(api.OpDrop)), does(in(99)),
		does(in(api.OpVal), push(0), in(api.OpMul), in(api.OpVal), in(api.OpEmit)), does(in(api.OpVal), in(api.OpVal), in(api.OpAdd), in(api.OpKey), in(api.OpEmit)), does(in(api.OpKey), in(api.OpVal), in(api.OpKey), in(api.OpDiv), in(api.OpEmit)),
	}
	for kind := api.KInput; kind <= api.KSink; kind++ {
		if kind != api.KProg && kind != api.KShift && kind != api.KKeep {
			all = append(all, of(kind))
		}
	}
	for _, kind := range none() {
		all = append(all, api.Node{Kind: kind, Arg: 1, Prog: emits(1)})
	}
	return all
}

// portsOf a kind, as the chapter takes them: a KTotal's second bag is one.
func portsOf(kind int) int {
	switch kind {
	case api.KConcat, api.KJoin, api.KTotal:
		return 2
	}
	if slices.Contains(none(), kind) {
		return 0
	}
	return 1
}

// wrongBags are lists that are no right bags, each by something else. Right ones stand in them, which nothing may come of either.
func wrongBags() [][]api.Item {
	return [][]api.Item{
		l(n(0, 1, 2)), l(n(1, 1, 2), n(0, 1, 3)), l(n(often+1, 1, 2)), l(n(1, 1, 2), n(-often-1, 2, 2)), l(n(math.MaxInt, 1, 2)), l(n(math.MinInt, 1, 2)), l(n(1, 1, 2), n(1<<32, 1, 3)),
		l(n(1, 1, 2), n(1, 1, 2)), l(n(1, 1, 2), n(-1, 1, 2)), l(n(1, 1, 3), n(1, 1, 2)), l(n(1, 2, 2), n(1, 1, 3)), l(n(1, 1, 2), n(1, 3, 1), n(1, 2, 5)), l(n(1, 0, 0), n(1, least, 0)), l(n(-1, 2, 2), n(1, 1, 2)),
	}
}

// compare two records by their order, as chapter 5 says it.
func compare(a, b api.Rec) int { return cmp.Or(cmp.Compare(a.K, b.K), cmp.Compare(a.V, b.V)) }

// right bag, as chapter 5 says it?
func right(b []api.Item) bool {
	for i, x := range b {
		if x.N == 0 || x.N < -often || x.N > often || i > 0 && compare(b[i-1].Rec, x.Rec) >= 0 {
			return false
		}
	}
	return true
}

// counts are records with how often they come, in numbers without an end.
type counts map[api.Rec]*big.Int

// put a record there so many times more.
func (c counts) put(x api.Rec, many *big.Int) {
	if c[x] == nil {
		c[x] = new(big.Int)
	}
	c[x].Add(c[x], many)
}

// bag of them, if there is room.
func (c counts) bag() ([]api.Item, bool) {
	all := new(big.Int)
	var b []api.Item
	for x, many := range c {
		all.Add(all, many)
		b = append(b, api.Item{Rec: x, N: int(many.Int64())})
	}
	if all.Cmp(big.NewInt(room)) > 0 {
		return nil, false
	}
	slices.SortFunc(b, func(x, y api.Item) int { return compare(x.Rec, y.Rec) })
	return b, true
}

// slowThere is what is there in a port, by the chapters' words.
func slowThere(ports [][]api.Item, port int) []api.Item {
	var there []api.Item
	if port < len(ports) && right(ports[port]) {
		for _, x := range ports[port] {
			if x.N > 0 {
				there = append(there, x)
			}
		}
	}
	return there
}

// fits is the record of a key with a number, or the error, if it has no room in 64 bits.
func fits(k int64, v *big.Int) api.Rec {
	if !v.IsInt64() {
		return r(k, over)
	}
	return r(k, v.Int64())
}

// slow is Apply by the chapter's words.
func slow(x api.Node, ports [][]api.Item) ([]api.Item, bool) {
	a, b := slowThere(ports, 0), slowThere(ports, 1)
	c := counts{}
	switch x.Kind {
	case api.KCount, api.KSum, api.KTotal, api.KJoin:
		slowKeys(c, x.Kind, a, b)
		return c.bag()
	case api.KConcat:
		a = slices.Concat(a, b)
	}
	if slices.Contains(none(), x.Kind) {
		return nil, true
	}
	for _, i := range a {
		v, many := big.NewInt(i.Rec.V), big.NewInt(int64(i.N))
		switch arg := big.NewInt(x.Arg); x.Kind {
		case api.KDistinct:
			c.put(i.Rec, big.NewInt(1))
		case api.KProg:
			come, _ := prog.Run(x.Prog, i.Rec)
			for _, y := range come {
				c.put(y, many)
			}
		case api.KShift:
			c.put(fits(i.Rec.K, v.Add(v, arg)), many)
		case api.KKeep:
			if x.Arg >= 1 && v.Rem(v, arg).Sign() == 0 {
				c.put(i.Rec, many)
			}
		default:
			c.put(i.Rec, many)
		}
	}
	return c.bag()
}

// slowKeys is slow of the kinds that go by keys: of each key all of the bags are gone through again.
func slowKeys(c counts, kind int, a, b []api.Item) {
	seen := map[int64]bool{}
	for _, i := range a {
		k := i.Rec.K
		if kind == api.KJoin {
			for _, j := range b {
				if j.Rec.K == k {
					c.put(fits(k, new(big.Int).Add(big.NewInt(i.Rec.V), big.NewInt(j.Rec.V))), new(big.Int).Mul(big.NewInt(int64(i.N)), big.NewInt(int64(j.N))))
				}
			}
			continue
		}
		if seen[k] {
			continue
		}
		seen[k] = true
		from := a
		if kind == api.KTotal {
			from = b
		}
		many, sum := new(big.Int), new(big.Int)
		for _, j := range from {
			if j.Rec.K == k {
				many.Add(many, big.NewInt(int64(j.N)))
				sum.Add(sum, new(big.Int).Mul(big.NewInt(int64(j.N)), big.NewInt(j.Rec.V)))
			}
		}
		if kind == api.KCount {
			sum = many
		}
		c.put(fits(k, sum), big.NewInt(1))
	}
}

// same bags, and both that there is room, or both not?
func same(t *testing.T, x api.Node, ports [][]api.Item, got []api.Item, ok bool, want []api.Item, fits bool) {
	t.Helper()
	if ok != fits || !slices.Equal(got, want) {
		t.Fatalf("Apply(%v, %s) = %s, %v, not %s, %v", x, brief(ports), brief(got), ok, brief(want), fits)
	}
	for _, i := range got {
		if i.N < 1 {
			t.Fatalf("Apply(%v, %s): %v is there", x, brief(ports), i)
		}
	}
	if !right(got) {
		t.Fatalf("Apply(%v, %s) = %s is not right", x, brief(ports), brief(got))
	}
}

// brief is what is told of a thing: of a long list of items its beginning.
func brief[T any](x []T) string {
	text := big.NewInt(int64(len(x))).String() + " of:"
	for i, y := range x {
		if i == 8 {
			return text + " .."
		}
		text += " " + tell(y)
	}
	return text
}

// tell an item, or a list of them.
func tell(x any) string {
	switch y := x.(type) {
	case []api.Item:
		return "[" + brief(y) + "]"
	case api.Item:
		return "(" + big.NewInt(y.Rec.K).String() + " " + big.NewInt(y.Rec.V).String() + ")*" + big.NewInt(int64(y.N)).String()
	}
	return "?"
}

// gives asks what comes of an operator's ports; so does the slow answer, that it be a right one.
func gives(t *testing.T, x api.Node, ports [][]api.Item, want ...api.Item) {
	t.Helper()
	got, ok := ops.Apply(x, ports)
	same(t, x, ports, got, ok, want, true)
	got, ok = slow(x, ports)
	same(t, x, ports, got, ok, want, true)
}

// full asks that there is no room.
func full(t *testing.T, x api.Node, ports [][]api.Item) {
	t.Helper()
	got, ok := ops.Apply(x, ports)
	same(t, x, ports, got, ok, nil, false)
	got, ok = slow(x, ports)
	same(t, x, ports, got, ok, nil, false)
}

// holds asks that Apply answers as the slow one, and tells what.
func holds(t *testing.T, x api.Node, ports [][]api.Item) ([]api.Item, bool) {
	t.Helper()
	want, fits := slow(x, ports)
	got, ok := ops.Apply(x, ports)
	same(t, x, ports, got, ok, want, fits)
	return got, ok
}

// chance makes numbers that are always the same.
type chance uint64

// below tells a number from 0 to one less than n.
func (c *chance) below(n int) int {
	*c = *c*6364136223846793005 + 1442695040888963407
	return int(uint64(*c) >> 33 % uint64(n))
}

// value of a record: small ones mostly, and some at both ends.
func (c *chance) value() int64 {
	switch c.below(8) {
	case 0:
		return least + int64(c.below(4))
	case 1:
		return greatest - int64(c.below(4))
	case 2:
		return int64(c.below(3)-1) << 62
	}
	return int64(c.below(9)) - 4
}

// often tells how often a record is there: less than once, too, and sometimes very often.
func (c *chance) often() int {
	switch c.below(12) {
	case 0:
		return -1 - c.below(3)
	case 1:
		return 200 + c.below(200)
	case 2:
		return []int{often, often - 1, -often, room, room - 1, room + 1}[c.below(6)]
	}
	return 1 + c.below(3)
}

// bag of a few keys; not a right one now and then.
func (c *chance) bag() []api.Item {
	var b []api.Item
	seen := map[api.Rec]bool{}
	for range c.below(7) {
		x := r(int64(c.below(3)), c.value())
		if c.below(20) == 0 {
			x.K = []int64{least, greatest, -1}[c.below(3)]
		}
		if !seen[x] {
			seen[x] = true
			b = append(b, api.Item{Rec: x, N: c.often()})
		}
	}
	if c.below(15) > 0 {
		slices.SortFunc(b, func(x, y api.Item) int { return compare(x.Rec, y.Rec) })
	}
	return b
}

// ports with bags, from none to three.
func (c *chance) ports() [][]api.Item {
	var all [][]api.Item
	for range []int{2, 2, 2, 1, 3, 0}[c.below(6)] {
		all = append(all, c.bag())
	}
	return all
}
