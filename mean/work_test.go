package mean_test

import (
	"slices"
	"testing"

	"backwash/api"
)

// Each record counts along each edge, as often as it is there; what is fed comes along none, and neither does what has no edge to go.
func TestP12_1_Work(t *testing.T) {
	x := newPlan()
	a := x.input()
	feeds := many(fed(a, 0, 1, 1), fed(a, 0, 1, 1), fed(a, 3, 1, 2))
	means(t, x.Graph, feeds, 0)
	x.sink(a)
	means(t, x.Graph, feeds, 3, out(1, 0, 1, 1), out(1, 0, 1, 1), out(1, 3, 1, 2))
	once := x.of(api.KDistinct, a)
	means(t, x.Graph, feeds, 6, out(1, 0, 1, 1), out(1, 0, 1, 1), out(1, 3, 1, 2))
	x.of(api.KConcat, once, once)
	means(t, x.Graph, feeds, 6+4, out(1, 0, 1, 1), out(1, 0, 1, 1), out(1, 3, 1, 2))
	x.of(api.KJoin, a, once)
	means(t, x.Graph, feeds, 6+4+3+2, out(1, 0, 1, 1), out(1, 0, 1, 1), out(1, 3, 1, 2))
}

// Of no work at all.
func TestP12_1_WorkOfNothing(t *testing.T) {
	two := newPlan()
	a, b := two.input(), two.input()
	s := two.sink(b)
	asks(t, two.Graph, times(1000, fed(a, 0, 1, 1)), 0, nil, api.OK)
	asks(t, two.Graph, append(times(1000, fed(a, 0, 1, 1)), fed(b, 0, 1, 1)), 0, nil, api.ErrFull)
	asks(t, two.Graph, append(times(1000, fed(a, 0, 1, 1)), fed(b, 0, 1, 1)), 1, many(out(s, 0, 1, 1)), api.OK)
}

// Along edges that part and meet the same record counts on each.
func TestP12_1_WorkOfWaysThatPartAndMeet(t *testing.T) {
	x := newPlan()
	n := x.input()
	work := 0
	for i := range 10 {
		n = x.of(api.KConcat, n, n)
		work += 2 << i
	}
	means(t, x.Graph, many(fed(0, 0, 1, 1)), work)
	s := x.sink(n)
	means(t, x.Graph, many(fed(0, 0, 1, 1)), work+1<<10, times(1<<10, out(s, 0, 1, 1))...)
}

// All epochs' work counts together, and all operators'.
func TestP12_1_WorkInAll(t *testing.T) {
	x := newPlan()
	a, b := x.input(), x.input()
	s, u := x.sink(a), x.sink(x.of(api.KInspect, b))
	feeds := many(fed(a, 0, 1, 1), fed(b, 0, 1, 1), fed(a, 9, 1, 1), fed(b, topEpoch, 1, 1))
	means(t, x.Graph, feeds, 6, out(s, 0, 1, 1), out(s, 9, 1, 1), out(u, 0, 1, 1), out(u, topEpoch, 1, 1))
}

// Just as much as may be let at all, and one more.
func TestP12_1_MostOfAll(t *testing.T) {
	x := newPlan()
	n := x.input()
	for range 4 {
		n = x.of(api.KConcat, n, n)
	}
	// Of each record 2 + 4 + 8 + 16 come; of 2^16 less some there are 30 * 34952 = 2^20 - 16.
	feeds := many[api.Feed]()
	for i := range 34952 {
		feeds = append(feeds, fed(0, i%32, int64(i), 0))
	}
	asks(t, x.Graph, feeds, topWork-16, nil, api.OK)
	asks(t, x.Graph, feeds, topWork-17, nil, api.ErrFull)
	asks(t, x.Graph, feeds, topWork, nil, api.OK)
	other := x.input()
	x.of(api.KInspect, other)
	asks(t, x.Graph, append(feeds, times(16, fed(other, 0, 1, 1))...), topWork, nil, api.OK)
	asks(t, x.Graph, append(feeds, times(17, fed(other, 0, 1, 1))...), topWork, nil, api.ErrFull)
}

// full asks that there is no room, though the work has.
func full(t *testing.T, g api.Graph, feeds []api.Feed) {
	t.Helper()
	may(t, g)
	if s := slowly(g, feeds); !s.settled || !s.full || s.work > topWork {
		t.Errorf("slowly: settled %v, full %v, work %d", s.settled, s.full, s.work)
	}
	asks(t, g, feeds, topWork, nil, api.ErrFull)
}

func TestP12_1_NoRoomForFeeds(t *testing.T) {
	just := times(room, fed(0, 7, 1, 1))
	means(t, plain(), just, room, times(room, out(1, 7, 1, 1))...)
	more := append(slices.Clone(just), fed(0, 7, 0, 0))
	full(t, plain(), more)
	// In another epoch, or to another input, there is room for it.
	more[len(more)-1].Epoch = 8
	means(t, plain(), more, room+1, append(times(room, out(1, 7, 1, 1)), out(1, 8, 0, 0))...)
	x := newPlan()
	s, u := x.sink(x.input()), x.sink(x.input())
	more = append(slices.Clone(just), fed(2, 7, 0, 0))
	means(t, x.Graph, more, room+1, append(times(room, out(s, 7, 1, 1)), out(u, 7, 0, 0))...)
	// An input from which no edge leads has no more room, and no work.
	x.input()
	full(t, x.Graph, times(room+1, fed(4, 7, 1, 1)))
	means(t, x.Graph, times(room, fed(4, 7, 1, 1)), 0)
}

// Just the room, and one more, of a join, a program and a concat, as little work as it is up to there.
func TestP12_1_NoRoomForWhatIsMade(t *testing.T) {
	x := newPlan()
	a, b := x.input(), x.input()
	s := x.sink(x.of(api.KCount, x.of(api.KJoin, a, b)))
	feeds := slices.Concat(times(256, fed(a, 0, 1, 1)), times(256, fed(b, 0, 1, 1)))
	means(t, x.Graph, feeds, 512+room+1, out(s, 0, 1, room))
	full(t, x.Graph, append(feeds, fed(b, 0, 1, 1)))
	full(t, x.Graph, slices.Concat(feeds, many(fed(a, 0, 2, 1), fed(b, 0, 2, 1))))
	gives(t, x.Graph, slices.Concat(feeds, many(fed(a, 1, 1, 1), fed(b, 1, 1, 1))), out(s, 0, 1, room), out(s, 1, 1, 1))
	// One after which nothing comes: it has no room all the same.
	x = newPlan()
	a, b = x.input(), x.input()
	x.of(api.KJoin, a, b)
	means(t, x.Graph, feeds, 512)
	full(t, x.Graph, append(feeds, fed(b, 0, 1, 1)))

	x = newPlan()
	a = x.input()
	s = x.sink(x.of(api.KCount, x.does(emits(8), a)))
	feeds = times(room/8, fed(a, 0, 1, 1))
	means(t, x.Graph, feeds, room/8+room+1, out(s, 0, 1, room))
	full(t, x.Graph, append(feeds, fed(a, 0, 1, 1)))

	g := two(api.KConcat)
	feeds = slices.Concat(times(40000, fed(0, 0, 1, 1)), times(room-40000, fed(1, 0, 1, 1)))
	means(t, g, feeds, 2*room, times(room, out(3, 0, 1, 1))...)
	full(t, g, append(feeds, fed(1, 0, 1, 1)))
}

// gathered is a loop of two rounds, with what comes in each of them behind it, twice as much as was fed, from one port.
func gathered(n api.Node) api.Graph {
	x := newPlan()
	begin, _ := x.loop(2, x.input(), func(from int) int { return x.of(api.KInspect, from) })
	x.put(n, x.leave(begin))
	return x.Graph
}

// Of what comes together from several rounds there may be more than there is room for; who makes less of it has room.
func TestP12_1_NoRoomForWhatComesTogether(t *testing.T) {
	less := times(room/2, fed(0, 0, 1, 2))
	more := append(slices.Clone(less), fed(0, 0, 1, 2))
	for _, n := range []api.Node{{Kind: api.KInspect}, {Kind: api.KShift, Arg: 1}, {Kind: api.KKeep, Arg: 2}, {Kind: api.KProg, Prog: emits(1)}, {Kind: api.KSink}} {
		g := gathered(n)
		asks(t, g, more, topWork, nil, api.ErrFull)
		if s := slowly(g, more); !s.settled || !s.full {
			t.Errorf("%d: slowly there is room", n.Kind)
		}
		want := times(room, out(6, 0, 1, 2))
		if n.Kind != api.KSink {
			want = nil
		}
		means(t, g, less, room/2*11, want...)
	}
	for _, n := range []api.Node{{Kind: api.KSum}, {Kind: api.KCount}, {Kind: api.KDistinct}, {Kind: api.KTotal}, {Kind: api.KKeep, Arg: 3}, {Kind: api.KProg}} {
		means(t, gathered(n), more, (room/2+1)*11)
	}
}

// What a KBack has no room for is an error, though it would be lost.
func TestP12_1_NoRoomForWhatIsLost(t *testing.T) {
	x := newPlan()
	x.loop(1, x.input(), func(from int) int {
		begin, _ := x.loop(2, from, func(from int) int { return from })
		return x.leave(begin)
	})
	less := times(room/2, fed(0, 0, 1, 2))
	gives(t, x.Graph, less)
	full(t, x.Graph, append(less, fed(0, 0, 1, 2)))
}

// One epoch without room is enough, be there good ones ahead of it and behind it; so is one operator.
func TestP12_1_NoRoomInOneEpoch(t *testing.T) {
	for _, epoch := range many(0, 5, topEpoch) {
		feeds := append(times(room+1, fed(0, epoch, 1, 1)), fed(0, 4, 1, 1), fed(0, 6, 1, 1))
		full(t, plain(), feeds)
	}
	x := newPlan()
	a, b := x.input(), x.input()
	x.sink(a)
	x.of(api.KJoin, b, b)
	x.sink(a)
	full(t, x.Graph, append(times(300, fed(b, 0, 1, 1)), fed(a, 0, 1, 1)))
}
