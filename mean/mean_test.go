package mean_test

import (
	"fmt"
	"math"
	"slices"
	"testing"

	"backwash/api"
	"backwash/mean"
	"backwash/valid"
)

const (
	least    = math.MinInt64
	greatest = math.MaxInt64
	over     = least + 2 // the value that tells an error of reckoning
	topEpoch = 1 << 20
	topWork  = 1 << 20
	room     = 1 << 16
)

// fed is a record that is fed to an input, in an epoch.
func fed(node, epoch int, k, v int64) api.Feed {
	return api.Feed{Node: node, Epoch: epoch, Rec: api.Rec{K: k, V: v}}
}

// out is a record that a sink gives, of an epoch.
func out(node, epoch int, k, v int64) api.Out {
	return api.Out{Node: node, Epoch: epoch, Rec: api.Rec{K: k, V: v}}
}

// many is a list of things.
func many[T any](l ...T) []T { return l }

// times is a list, so many times.
func times[T any](n int, l ...T) []T { return slices.Repeat(l, n) }

// in is an instruction without a number.
func in(op int) api.Ins { return api.Ins{Op: op} }

// push is an OpPush.
func push(n int64) api.Ins { return api.Ins{Op: api.OpPush, N: n} }

// emits is a program that emits its record so many times.
func emits(n int) []api.Ins {
	return times(n, in(api.OpKey), in(api.OpVal), in(api.OpEmit))
}

// down is a program that emits its record with a value one less, as long as that is not 0.
func down() []api.Ins {
	return many(in(api.OpVal), api.Ins{Op: api.OpZero, N: 7}, in(api.OpKey), in(api.OpVal), push(1), in(api.OpSub), in(api.OpEmit))
}

// later stands for an operator that is not there yet.
const later = -1

// plan is a graph that is put together operator by operator.
type plan struct {
	api.Graph
	scope int
}

// newPlan is one without operators.
func newPlan() *plan {
	return &plan{Graph: api.Graph{Parent: []int{-1}, Bound: []int{0}}}
}

// put an operator, which takes from others, port by port.
func (x *plan) put(n api.Node, from ...int) int {
	n.Scope = x.scope
	x.Nodes = append(x.Nodes, n)
	for port, f := range from {
		if f != later {
			x.lead(f, len(x.Nodes)-1, port)
		}
	}
	return len(x.Nodes) - 1
}

// lead from an operator to a port.
func (x *plan) lead(from, to, port int) {
	x.Edges = append(x.Edges, api.Edge{From: from, To: to, Port: port, Exchange: true})
}

// of a kind.
func (x *plan) of(kind int, from ...int) int { return x.put(api.Node{Kind: kind}, from...) }

// by a number.
func (x *plan) by(kind int, arg int64, from ...int) int {
	return x.put(api.Node{Kind: kind, Arg: arg}, from...)
}

// does is a KProg.
func (x *plan) does(code []api.Ins, from int) int {
	return x.put(api.Node{Kind: api.KProg, Prog: code}, from)
}

// input is one more input.
func (x *plan) input() int { return x.of(api.KInput) }

// sink of an operator.
func (x *plan) sink(from int) int { return x.of(api.KSink, from) }

// into a new scope.
func (x *plan) into(bound int) {
	x.Parent, x.Bound = append(x.Parent, x.scope), append(x.Bound, bound)
	x.scope = len(x.Parent) - 1
}

// back to the scope around.
func (x *plan) back() { x.scope = x.Parent[x.scope] }

// loop of so many rounds, of what body makes; its number is that of a concat of what enters and what comes around. The end of the body goes around.
func (x *plan) loop(bound, from int, body func(from int) int) (begin, end int) {
	x.into(bound)
	begin = x.of(api.KConcat, x.of(api.KEnter, from), later)
	end = body(begin)
	x.lead(x.of(api.KBack, end), begin, 1)
	return begin, end
}

// leave the scope.
func (x *plan) leave(from int) int {
	n := x.of(api.KLeave, from)
	x.back()
	return n
}

// may tells that a graph may run.
func may(t *testing.T, g api.Graph) {
	t.Helper()
	if e, at := valid.Check(g); e != api.OK {
		t.Fatalf("it may not run: %d at %d of %+v", e, at, g)
	}
}

// brief tells of a list, if it is long only by its beginning.
func brief[T any](l []T) string {
	if len(l) > 12 {
		return fmt.Sprintf("%d: %v..", len(l), l[:12])
	}
	return fmt.Sprint(l)
}

// asks what Run answers.
func asks(t *testing.T, g api.Graph, feeds []api.Feed, most int, want []api.Out, err api.Errno) {
	t.Helper()
	got, e := mean.Run(g, feeds, most)
	if e != err || !slices.Equal(got, want) {
		t.Fatalf("Run of %s, %d: %s, %d, not %s, %d, of %+v", brief(feeds), most, brief(got), e, brief(want), err, g)
	}
}

// means asks what a graph means, which is so much work, and what the slow answer is, too.
func means(t *testing.T, g api.Graph, feeds []api.Feed, work int, want ...api.Out) {
	t.Helper()
	may(t, g)
	s := slowly(g, feeds)
	if !s.settled || s.full || s.work != work || !slices.Equal(s.outs, want) {
		t.Errorf("slowly, of %s: %s, work %d, not %s, %d, of %+v", brief(feeds), brief(s.outs), s.work, brief(want), work, g)
	}
	asks(t, g, feeds, topWork, want, api.OK)
	asks(t, g, feeds, work, want, api.OK)
	if work > 0 {
		asks(t, g, feeds, work-1, nil, api.ErrFull)
	}
}

// gives asks what a graph means, whatever work that is.
func gives(t *testing.T, g api.Graph, feeds []api.Feed, want ...api.Out) {
	t.Helper()
	means(t, g, feeds, slowly(g, feeds).work, want...)
}

// values are what a sink gives of an epoch and a key.
func values(sink, epoch int, k int64, v ...int64) []api.Out {
	var l []api.Out
	for _, x := range v {
		l = append(l, out(sink, epoch, k, x))
	}
	return l
}

// The chapter's example, with what is around it: what is given in a round goes out, too.
func TestP12_1_Example(t *testing.T) {
	x := newPlan()
	_, end := x.loop(3, x.input(), func(from int) int { return x.by(api.KShift, 1, from) })
	s := x.sink(x.leave(end))
	means(t, x.Graph, many(fed(0, 0, 1, 0)), 1+1+2+3+3+3+3, out(s, 0, 1, 1), out(s, 0, 1, 2), out(s, 0, 1, 3))
}

func TestP12_1_OfNothingNothing(t *testing.T) {
	x := newPlan()
	x.sink(x.of(api.KTotal, x.of(api.KCount, x.of(api.KSum, x.input()))))
	means(t, x.Graph, nil, 0)
	means(t, x.Graph, []api.Feed{}, 0)
	alone := newPlan()
	alone.input()
	means(t, alone.Graph, nil, 0)
	means(t, alone.Graph, many(fed(0, 3, 1, 1), fed(0, 0, 1, 1)), 0)
	every := everyKind()
	means(t, every, nil, 0)
	// A loop to which nothing leads from outside.
	ring := newPlan()
	i := ring.input()
	ring.into(5)
	k := ring.of(api.KInspect, later)
	b := ring.of(api.KBack, k)
	ring.lead(b, k, 0)
	ring.sink(ring.leave(k))
	s := ring.sink(i)
	means(t, ring.Graph, many(fed(i, 0, 1, 1)), 1, out(s, 0, 1, 1))
}

// Without a sink nothing is answered, but it is work.
func TestP12_1_NoSinks(t *testing.T) {
	x := newPlan()
	x.of(api.KSum, x.of(api.KInspect, x.input()))
	means(t, x.Graph, many(fed(0, 0, 1, 1), fed(0, 0, 1, 2), fed(0, 1, 1, 1)), 6)
}

func TestP12_1_InputsAndSinks(t *testing.T) {
	x := newPlan()
	a, b, c := x.input(), x.input(), x.input()
	s := x.sink(b)
	both := x.of(api.KConcat, a, b)
	u, v, w := x.sink(both), x.sink(a), x.sink(both)
	feeds := many(fed(b, 1, 1, 1), fed(a, 1, 1, 1), fed(c, 1, 1, 1), fed(a, 0, 5, 5), fed(b, 1, 1, 1), fed(b, 2, 0, 0))
	means(t, x.Graph, feeds, 3+2+3+5+2+5,
		out(s, 1, 1, 1), out(s, 1, 1, 1), out(s, 2, 0, 0),
		out(u, 0, 5, 5), out(u, 1, 1, 1), out(u, 1, 1, 1), out(u, 1, 1, 1), out(u, 2, 0, 0),
		out(v, 0, 5, 5), out(v, 1, 1, 1),
		out(w, 0, 5, 5), out(w, 1, 1, 1), out(w, 1, 1, 1), out(w, 1, 1, 1), out(w, 2, 0, 0))
	// Which input is fed counts, not the place among them.
	means(t, x.Graph, many(fed(c, 4, 1, 1)), 0)
	means(t, x.Graph, many(fed(a, 4, 1, 1)), 4, out(u, 4, 1, 1), out(v, 4, 1, 1), out(w, 4, 1, 1))
}

// The sinks by their numbers, each one's epochs, each one's records, each as often as it is there.
func TestP12_1_Order(t *testing.T) {
	x := newPlan()
	a, b := x.input(), x.input()
	late := x.sink(b)
	early := x.sink(a)
	var feeds []api.Feed
	var want []api.Out
	for _, s := range many(late, early) {
		for _, epoch := range many(0, 1, 7, 1000, topEpoch-1, topEpoch) {
			for _, k := range many[int64](least, -2, 0, 1, greatest) {
				for n, v := range many[int64](least, -1, 0, 9, greatest) {
					want = append(want, times(1+n%2, out(s, epoch, k, v))...)
				}
			}
		}
	}
	for i := range want {
		o := want[(i*97)%len(want)] // 97 doesn't divide into how many there are: each once
		feeds = append(feeds, api.Feed{Node: map[int]int{late: b, early: a}[o.Node], Epoch: o.Epoch, Rec: o.Rec})
	}
	means(t, x.Graph, feeds, len(want), want...)
}

// As there may be but one edge to a port, several edges reach a sink by way of concats, which may be fed the same twice.
func TestP12_1_SeveralEdgesToASink(t *testing.T) {
	x := newPlan()
	a, b := x.input(), x.input()
	s := x.sink(x.of(api.KConcat, x.of(api.KConcat, a, b), x.of(api.KConcat, a, a)))
	feeds := many(fed(a, 0, 1, 1), fed(b, 0, 1, 1), fed(b, 0, 1, 2), fed(a, 0, 1, 1))
	want := append(times(7, out(s, 0, 1, 1)), out(s, 0, 1, 2))
	means(t, x.Graph, feeds, 4+4+8+8, want...)
	x.lead(b, s, 0)
	asks(t, x.Graph, feeds, topWork, nil, api.ErrArg)
}

func TestP12_1_TheSameRecordOften(t *testing.T) {
	x := newPlan()
	a, b := x.input(), x.input()
	both := x.of(api.KConcat, a, b)
	once := x.sink(x.of(api.KDistinct, both))
	count := x.sink(x.of(api.KCount, both))
	all := x.sink(both)
	feeds := slices.Concat(times(5, fed(a, 2, 7, 7)), times(4, fed(b, 2, 7, 7)), times(3, fed(b, 1, 7, 7)))
	want := slices.Concat(many(out(once, 1, 7, 7), out(once, 2, 7, 7), out(count, 1, 7, 3), out(count, 2, 7, 9)), times(3, out(all, 1, 7, 7)), times(9, out(all, 2, 7, 7)))
	means(t, x.Graph, feeds, 12+12+2+12+2+12, want...)
}

// Far more epochs than fit into a list of them.
func TestP12_1_ManyEpochs(t *testing.T) {
	x := newPlan()
	a := x.input()
	s := x.sink(x.by(api.KShift, 1, a))
	var feeds []api.Feed
	var want []api.Out
	for i := range 1 << 15 {
		feeds = append(feeds, fed(a, topEpoch-i*32, 0, int64(i)))
	}
	for i := range slices.Backward(feeds) {
		want = append(want, out(s, feeds[i].Epoch, 0, int64(i)+1))
	}
	asks(t, x.Graph, feeds, 1<<16, want, api.OK)
	asks(t, x.Graph, feeds, 1<<16-1, nil, api.ErrFull)
}
