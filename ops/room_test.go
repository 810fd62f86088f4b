package ops_test

import (
	"testing"

	"backwash/api"
	"backwash/ops"
)

// row is a bag of so many records, each of a key of its own, each so often.
func row(size, many int) []api.Item {
	var b []api.Item
	for i := range size {
		b = append(b, n(many, int64(i), 2))
	}
	return b
}

// column is a bag of so many records of one key, each so often.
func column(size, many int) []api.Item {
	var b []api.Item
	for i := range size {
		b = append(b, n(many, 7, int64(i)))
	}
	return b
}

// crowds are bags of just as many records as there is room for: of one record, of many, and of many that are there often each.
func crowds() [][]api.Item {
	return [][]api.Item{
		l(n(room, 1, 2)), l(n(room-1, 1, 2), n(1, 1, 4)), l(n(1, 1, 2), n(room-1, 1, 4)), l(n(room/2, 1, 2), n(room/2, 5, 2)), row(room, 1), column(room, 1), row(1<<8, 1<<8), row(1<<15, 2), row(2, 1<<15), column(1<<4, 1<<12),
		l(n(-often, 0, 2), n(room, 1, 2), n(-1, 1, 4)), append(row(room-5, 1), n(5, room, 2)), append(l(n(5, -1, 2)), row(room-5, 1)...),
	}
}

// more is a bag with one record more, of the greatest key.
func more(b []api.Item) []api.Item {
	return append(append([]api.Item{}, b...), n(1, greatest, 4))
}

// sees asks what comes of an operator without asking the slow answer, too, which would take long.
func sees(t *testing.T, x api.Node, ports [][]api.Item, want ...api.Item) {
	t.Helper()
	got, ok := ops.Apply(x, ports)
	same(t, x, ports, got, ok, want, true)
}

// misses asks that there is no room, likewise.
func misses(t *testing.T, x api.Node, ports [][]api.Item) {
	t.Helper()
	got, ok := ops.Apply(x, ports)
	same(t, x, ports, got, ok, nil, false)
}

// there is what is there in a bag.
func there(b []api.Item) []api.Item { return slowThere(p(b), 0) }

func TestP11_1_RoomOfWhatStaysAsItIs(t *testing.T) {
	for _, b := range crowds() {
		all := there(b)
		for _, kind := range plain() {
			sees(t, of(kind), p(b), all...)
			sees(t, of(kind), p(b, b), all...)
			misses(t, of(kind), p(more(b)))
		}
		sees(t, of(api.KConcat), p(b), all...)
		sees(t, of(api.KConcat), p(nil, b), all...)
		sees(t, of(api.KConcat), p(b, nil, b), all...)
		misses(t, of(api.KConcat), p(more(b)))
		misses(t, of(api.KConcat), p(nil, more(b)))
		misses(t, of(api.KConcat), p(b, l(n(1, 1, 2))))
		misses(t, of(api.KConcat), p(l(n(1, least, 0)), b))
		misses(t, of(api.KConcat), p(b, b))
		sees(t, of(api.KShift), p(b), all...)
		misses(t, of(api.KShift), p(more(b)))
		sees(t, by(api.KKeep, 1), p(b), all...)
		misses(t, by(api.KKeep, 1), p(more(b)))
		sees(t, does(emits(1)...), p(b), all...)
		misses(t, does(emits(1)...), p(more(b)))
	}
}

func TestP11_1_RoomOfRecordsThatAreThereVeryOften(t *testing.T) {
	for _, many := range []int{room + 1, often, often - 1, 2 * room} {
		for _, b := range [][]api.Item{l(n(many, 1, 2)), l(n(1, 0, 0), n(many, 1, 2)), l(n(many, 1, 2), n(1, 2, 0)), row(9, many), column(1<<6, many)} {
			for _, kind := range append(plain(), api.KConcat, api.KShift) {
				full(t, of(kind), p(b))
			}
			full(t, of(api.KConcat), p(nil, b))
			full(t, of(api.KConcat), p(b, b))
			full(t, by(api.KShift, greatest), p(b))
			full(t, by(api.KKeep, 1), p(b))
			full(t, does(emits(1)...), p(b))
			full(t, does(emits(8)...), p(b))
			full(t, does(in(api.OpDrop)), p(b))
			full(t, of(api.KJoin), p(b, b))
			gives(t, by(api.KKeep, 0), p(b))
			gives(t, does(), p(b))
		}
	}
}

// The room is that of both ports together.
func TestP11_1_RoomOfConcat(t *testing.T) {
	gives(t, of(api.KConcat), p(l(n(room/2, 1, 2)), l(n(room/2, 1, 2))), n(room, 1, 2))
	full(t, of(api.KConcat), p(l(n(room/2, 1, 2)), l(n(room/2+1, 1, 2))))
	full(t, of(api.KConcat), p(l(n(room/2+1, 1, 2)), l(n(room/2, 1, 2))))
	gives(t, of(api.KConcat), p(row(room/2, 1), row(room/2, 1)), row(room/2, 2)...)
	full(t, of(api.KConcat), p(row(room/2, 1), row(room/2+1, 1)))
	full(t, of(api.KConcat), p(l(n(often, 1, 2)), l(n(1, 1, 2))))
	full(t, of(api.KConcat), p(l(n(1, 1, 2)), l(n(often, 1, 2))))
	gives(t, of(api.KConcat), p(l(n(room, 1, 2)), l(n(-1, 1, 2), n(-often, 2, 2))), n(room, 1, 2))
	// What is taken away in the one port makes no room for the other one.
	full(t, of(api.KConcat), p(l(n(room+1, 1, 2)), l(n(-1, 1, 2))))
}

// What a shift makes may be one record of many: it is how often it comes that needs the room.
func TestP11_1_RoomOfShift(t *testing.T) {
	var b []api.Item
	for i := range int64(room) {
		b = append(b, n(1, 3, greatest-room+1+i))
	}
	gives(t, by(api.KShift, room), p(b), n(room, 3, over))
	full(t, by(api.KShift, room), p(more(b)))
	gives(t, by(api.KShift, room), p(l(n(room, 3, greatest))), n(room, 3, over))
	full(t, by(api.KShift, room), p(l(n(room+1, 3, greatest))))
}

// What isn't kept needs none.
func TestP11_1_RoomOfKeep(t *testing.T) {
	gives(t, by(api.KKeep, 2), p(l(n(often, 1, 1), n(room, 1, 2), n(often, 1, 3))), n(room, 1, 2))
	full(t, by(api.KKeep, 2), p(l(n(often, 1, 1), n(room+1, 1, 2), n(often, 1, 3))))
	full(t, by(api.KKeep, 2), p(l(n(often, 1, 1), n(room, 1, 2), n(often, 1, 3), n(1, 1, 4))))
	gives(t, by(api.KKeep, 2), p(column(2*room, 1)), there(halves())...)
	full(t, by(api.KKeep, 2), p(column(2*room+1, 1)))
	gives(t, by(api.KKeep, 0), p(column(2*room, often)))
	gives(t, by(api.KKeep, -1), p(column(2*room, often)))
}

// halves are the even values of a column twice as long as there is room for.
func halves() []api.Item {
	var b []api.Item
	for i := range int64(room) {
		b = append(b, n(1, 7, 2*i))
	}
	return b
}

func TestP11_1_RoomOfProg(t *testing.T) {
	for many := 1; many <= 8; many++ {
		fits := room / many
		gives(t, does(emits(many)...), p(l(n(fits, 1, 2))), n(fits*many, 1, 2))
		full(t, does(emits(many)...), p(l(n(fits+1, 1, 2))))
	}
	gives(t, does(emits(8)...), p(row(room/8, 1)), row(room/8, 8)...)
	full(t, does(emits(8)...), p(more(row(room/8, 1))))
	gives(t, does(emits(4)...), p(row(room/16, 4)), row(room/16, 16)...)
	full(t, does(emits(4)...), p(more(row(room/16, 4))))
	gives(t, does(emits(8)...), p(l(n(room/8-1, 1, 2), n(1, 2, 2))), n(room-8, 1, 2), n(8, 2, 2))
	full(t, does(emits(8)...), p(l(n(room/8, 1, 2), n(1, 2, 2))))
	// Many records, and often, of which nothing comes.
	gives(t, does(), p(row(room+1, often)))
	gives(t, does(in(99)), p(row(room+1, often)))
	// One that tells an error comes of each, though more was emitted ahead of it.
	fails := does(append(emits(8), in(api.OpDrop))...)
	gives(t, fails, p(l(n(room, 1, 2))), n(room, 1, least+api.BadStack))
	full(t, fails, p(l(n(room, 1, 2), n(1, 2, 2))))
	// Of all of them one record.
	one := does(push(3), push(4), in(api.OpEmit))
	gives(t, one, p(row(room, 1)), n(room, 3, 4))
	full(t, one, p(row(room+1, 1)))
	gives(t, one, p(row(1<<6, 1<<10)), n(room, 3, 4))
	// Nothing of the even values, two of each odd one.
	odd := does(append([]api.Ins{in(api.OpVal), push(2), in(api.OpMod), {Op: api.OpZero, N: 10}}, emits(2)...)...)
	gives(t, odd, p(l(n(often, 1, 0), n(room/2-1, 1, 1), n(often, 1, 2), n(1, 1, 3))), n(room-2, 1, 1), n(2, 1, 3))
	full(t, odd, p(l(n(often, 1, 0), n(room/2, 1, 1), n(often, 1, 2), n(1, 1, 3))))
}

func TestP11_1_RoomOfDistinct(t *testing.T) {
	for _, many := range []int{1, 2, often} {
		sees(t, of(api.KDistinct), p(row(room, many)), row(room, 1)...)
		misses(t, of(api.KDistinct), p(row(room+1, many)))
		sees(t, of(api.KDistinct), p(column(room, many)), column(room, 1)...)
		misses(t, of(api.KDistinct), p(column(room+1, many)))
		sees(t, of(api.KDistinct), p(column(room, many), column(room+1, many)), column(room, 1)...)
	}
	sees(t, of(api.KDistinct), p(append(l(n(-1, -1, 0)), row(room, 1)...)), row(room, 1)...)
}

// A count, a sum and a total have room for as many keys, however many records these have.
func TestP11_1_RoomOfKeys(t *testing.T) {
	figures := func(v int64) []api.Item {
		b := row(room, 1)
		for i := range b {
			b[i].Rec.V = v
		}
		return b
	}
	for _, many := range []int{1, 2, often} {
		b := row(room, many)
		sees(t, of(api.KCount), p(b), figures(int64(many))...)
		sees(t, of(api.KSum), p(b), figures(2*int64(many))...)
		sees(t, of(api.KTotal), p(b, b), figures(2*int64(many))...)
		sees(t, of(api.KTotal), p(b), figures(0)...)
		sees(t, of(api.KTotal), p(b, more(b)), figures(2*int64(many))...)
		sees(t, of(api.KTotal), p(l(n(1, 7, 1)), column(4*room, 1)), n(1, 7, 2*room*(4*room-1)))
		for _, kind := range []int{api.KCount, api.KSum, api.KTotal} {
			misses(t, of(kind), p(more(b)))
			misses(t, of(kind), p(more(b), b))
			misses(t, of(kind), p(row(3*room, many), row(3*room, many)))
		}
	}
	for _, many := range []int{1, often} {
		gives(t, of(api.KCount), p(column(4*room, many)), n(1, 7, 4*room*int64(many)))
	}
	gives(t, of(api.KSum), p(column(4*room, 1)), n(1, 7, 2*room*(4*room-1)))
	gives(t, of(api.KSum), p(column(1<<14, often)), n(1, 7, often*(1<<13)*(1<<14-1)))
	gives(t, of(api.KSum), p(column(4*room, often)), n(1, 7, over))
	b := column(4*room, often)
	for i := range b {
		b[i].Rec.V += greatest - 4*room
	}
	gives(t, of(api.KSum), p(b), n(1, 7, over))
	gives(t, of(api.KTotal), p(l(n(1, 7, 0)), b), n(1, 7, over))
}

func TestP11_1_RoomOfJoin(t *testing.T) {
	join := of(api.KJoin)
	for _, c := range []struct{ a, b, more int }{{1, room, 0}, {room, 1, 0}, {1 << 8, 1 << 8, 0}, {2, 1 << 15, 0}, {1 << 12, 1 << 4, 0}, {255, 257, 1}, {65535, 1, 1}, {3, 21845, 1}, {21845, 3, 1}, {13107, 5, 1}} {
		left, right := l(n(c.a, 1, 1)), l(n(c.b, 1, 2))
		if c.more > 0 {
			left, right = append(left, n(c.more, 2, 0)), append(right, n(1, 2, 0))
			gives(t, join, p(left, right), n(c.a*c.b, 1, 3), n(c.more, 2, 0))
		} else {
			gives(t, join, p(left, right), n(room, 1, 3))
		}
		full(t, join, p(append(left, n(1, 3, 0)), append(right, n(1, 3, 0))))
		full(t, join, p(l(n(c.a+1, 1, 1)), l(n(c.b+1, 1, 2))))
		full(t, join, p(append(l(n(1, 0, 0)), left...), append(l(n(1, 0, 0)), right...)))
	}
	sees(t, join, p(row(room, 1), row(2*room, 1)), func() []api.Item {
		b := row(room, 1)
		for i := range b {
			b[i].Rec.V = 4
		}
		return b
	}()...)
	misses(t, join, p(row(room+1, 1), row(2*room, 1)))
	gives(t, join, p(column(1<<8, 1), l(n(1<<8, 7, 0))), column(1<<8, 1<<8)...)
	full(t, join, p(column(1<<8, 1), l(n(1<<8, 7, 0), n(1, 7, 9))))
	got, ok := holds(t, join, p(column(1<<8, 1), column(1<<8, 1)))
	if !ok || len(got) != 511 || got[255].N != 256 {
		t.Errorf("%s, %v", brief(got), ok)
	}
	full(t, join, p(column(1<<8+1, 1), column(1<<8, 1)))
	full(t, join, p(column(1<<8, 1), column(1<<8+1, 1)))
	// All the pairs are errors.
	gives(t, join, p(l(n(1<<8, 1, greatest)), l(n(1<<8, 1, 1))), n(room, 1, over))
	full(t, join, p(l(n(1<<8, 1, greatest)), l(n(1<<8, 1, 1), n(1, 1, 2))))
}

// Products of two counts, and what they add up to, as far beyond the room as it goes.
func TestP11_1_RoomOfGreatProducts(t *testing.T) {
	join := of(api.KJoin)
	for _, many := range []int{room + 1, often, often - 1, 1 << 24} {
		full(t, join, p(l(n(many, 1, 1)), l(n(many, 1, 2))))
		full(t, join, p(l(n(many, 1, 1)), l(n(1, 1, 2))))
		full(t, join, p(l(n(1, 1, 1)), l(n(many, 1, 2))))
		// Four products of 2^62 make 2^64, of which 64 bits say that it is nothing.
		for size := range 9 {
			if size > 0 {
				full(t, join, p(row(size, many), row(size, many)))
				full(t, join, p(column(size, many), column(size, many)))
				full(t, join, p(column(size, many), column(1, many)))
			}
		}
	}
	// What has no partner needs no room.
	gives(t, join, p(l(n(often, 1, 1), n(often, 3, 1), n(2, 4, 1)), l(n(often, 0, 1), n(often, 2, 1), n(3, 4, 2), n(often, 5, 0))), n(6, 4, 3))
	gives(t, join, p(l(n(often, 1, 1)), l(n(-often, 1, 1))))
}

// Long bags take no longer than their lengths, or than the room.
func TestP11_1_LongBags(t *testing.T) {
	misses(t, of(api.KJoin), p(column(4*room, 1), column(4*room, 1)))
	misses(t, of(api.KJoin), p(column(4*room, often), column(4*room, often)))
	var even, odd []api.Item
	for i := range int64(4 * room) {
		even = append(even, n(often, 2*i, 0))
		odd = append(odd, n(often, 2*i+1, 0))
	}
	sees(t, of(api.KJoin), p(even, odd))
	sees(t, of(api.KJoin), p(odd, even))
	for _, x := range nodes() {
		for _, b := range [][]api.Item{even, column(4*room, often)} {
			got, ok := ops.Apply(x, p(b, odd))
			if !right(got) || len(got) > room || !ok && len(got) > 0 {
				t.Errorf("%v: %s, %v", x, brief(got), ok)
			}
		}
	}
}
