package graph_test

import (
	"bytes"
	"math"
	"slices"
	"testing"

	"backwash/api"
	"backwash/graph"
)

func TestP8_2_TheExample(t *testing.T) {
	reads(t, []byte{0x42, 0x57, 0x31, 1, 0, 0}, one())
}

func TestP8_2_ByHand(t *testing.T) {
	reads(t, []byte{'B', 'W', '1', 3, 0, 3, 1, 4,
		2, 1, 5, 11, 2, 7, 16, 9, 19, 11, 12, 26, 2, 14, 29, 16, 34,
		2, 18, 19, 20, 1, 21, 22, 23, 0}, some())
	g := one()
	g.Nodes = []api.Node{{Kind: 300, Scope: top, Arg: least, Prog: []api.Ins{{Op: 128, N: greatest}}}, {}}
	reads(t, []byte{'B', 'W', '1', 1,
		2, 0xac, 2, 255, 255, 255, 255, 7, 255, 255, 255, 255, 255, 255, 255, 255, 255, 1, 1, 128, 1, 254, 255, 255, 255, 255, 255, 255, 255, 255, 1, 0, 0, 0, 0,
		0}, g)
}

func TestP8_2_TheBeginning(t *testing.T) {
	for _, l := range []string{"", "B", "BW", "BW1"} {
		noRead(t, "a beginning of it", []byte(l), api.ErrShort)
	}
	noRead(t, "nil", nil, api.ErrShort)
	good, _ := slowPut(some())
	for at := range 3 {
		for x := range 256 {
			bad := slices.Clone(good)
			if bad[at] = byte(x); bad[at] != good[at] {
				noRead(t, "another byte", bad, api.ErrForm)
				noRead(t, "another byte, and no more", bad[:at+1], api.ErrForm)
			}
		}
	}
	for _, l := range []string{"W", "1", "b", "bw1", "BW2\x01\x00\x00", "BX", "B1", "BWW", "\x00", "\xff\xff\xff", " BW1\x01\x00\x00", "BW\x01\x00\x00"} {
		noRead(t, "another", []byte(l), api.ErrForm)
	}
}

func TestP8_2_CutAtEachByte(t *testing.T) {
	for _, g := range []api.Graph{one(), some(), full(8, 3, 3, 3, smalls(), signeds()), full(3, 5, 2, 5, row(top), row[int64](least))} {
		l, _ := slowPut(g)
		for n := range l {
			noRead(t, "cut", l[:n], api.ErrShort)
			noRead(t, "cut", slices.Clip(slices.Clone(l[:n])), api.ErrShort)
		}
		reads(t, l, g)
	}
}

func TestP8_2_BytesAreLeft(t *testing.T) {
	for _, g := range []api.Graph{one(), some(), full(8, 32, 1, 64, smalls(), signeds())} {
		l, _ := slowPut(g)
		for x := range 256 {
			noRead(t, "one byte more", append(slices.Clone(l), byte(x)), api.ErrForm)
		}
		noRead(t, "once more", slices.Concat(l, l), api.ErrForm)
		noRead(t, "many more", slices.Concat(l, make([]byte, api.MaxBytes-len(l))), api.ErrForm)
	}
}

// swapped are bytes with others in the place of one number.
func swapped(l []byte, at spot, others []byte) []byte {
	return slices.Concat(l[:at.at], others, l[at.end:])
}

func TestP8_2_WiresErrorsAtEachNumber(t *testing.T) {
	for _, g := range []api.Graph{one(), some(), full(4, 2, 2, 2, smalls(), signeds())} {
		l, spots := slowPut(g)
		for _, at := range spots {
			last := slices.Clone(l[at.at:at.end])
			last[len(last)-1] += 128
			noRead(t, "more bytes than it needs", swapped(l, at, append(last, 0)), api.ErrForm)
			noRead(t, "0 in two bytes", swapped(l, at, []byte{128, 0}), api.ErrForm)
			noRead(t, "0 in ten bytes", swapped(l, at, append(bytes.Repeat([]byte{128}, 9), 0)), api.ErrForm)
			noRead(t, "too great", swapped(l, at, append(bytes.Repeat([]byte{255}, 9), 2)), api.ErrForm)
			noRead(t, "eleven bytes", swapped(l, at, append(bytes.Repeat([]byte{255}, 10), 1)), api.ErrForm)
			for n := range 9 {
				noRead(t, "no end", append(slices.Clone(l[:at.at]), bytes.Repeat([]byte{255}, n)...), api.ErrShort)
			}
			noRead(t, "no end, too many", append(slices.Clone(l[:at.at]), bytes.Repeat([]byte{255}, 10)...), api.ErrForm)
		}
	}
}

// What a place doesn't take is told at once, whatever stands behind it, and if nothing does.
func TestP8_2_WhatEachPlaceTakes(t *testing.T) {
	beyond := []uint64{0, 1, 2, 3, 7, 8, 9, 31, 32, 33, 63, 64, 65, 66, 127, 128, 255, 256, 257, 1 << 16, 1<<16 + 1, top - 1, top, top + 1, top + 2, 1<<32 - 1, 1 << 32, 1<<32 + 1, 1<<63 - 1, 1 << 63, 1<<63 + 1, math.MaxUint64 - 1, math.MaxUint64}
	for _, g := range []api.Graph{one(), some(), full(8, 2, 2, 2, smalls(), signeds())} {
		l, spots := slowPut(g)
		for _, at := range spots {
			for _, n := range beyond {
				now := swapped(l, at, slowBytes(n))
				asSlow(t, now)
				want := slowFault(at.what, n)
				if want == api.OK {
					continue
				}
				end := at.at + len(slowBytes(n))
				noRead(t, "and what was behind it", now, want)
				noRead(t, "and nothing behind it", now[:end], want)
				noRead(t, "and what is none", append(slices.Clone(now[:end]), bytes.Repeat([]byte{255}, 20)...), want)
			}
		}
	}
}

func TestP8_2_Counts(t *testing.T) {
	head := []byte{'B', 'W', '1'}
	zeros := make([]byte, 1000)
	for n := range 300 {
		for _, c := range []struct{ ahead, behind []byte }{
			{head, append(make([]byte, 2*max(0, n-1)), 0, 0)},
			{append(slices.Clone(head), 1), append(make([]byte, 4*n), 0)},
			{append(slices.Clone(head), 1, 1, 2, 3, 4), append(make([]byte, 2*n), 0)},
			{append(slices.Clone(head), 1, 0), make([]byte, 4*n)},
		} {
			asSlow(t, slices.Concat(c.ahead, slowBytes(uint64(n)), c.behind))
			asSlow(t, slices.Concat(c.ahead, slowBytes(uint64(n)), zeros))
			asSlow(t, slices.Concat(c.ahead, slowBytes(uint64(n))))
		}
	}
	for n, want := range map[int]api.Errno{0: api.ErrLong, 1: api.OK, 8: api.OK, 9: api.ErrLong} {
		l := slices.Concat(head, []byte{byte(n)}, make([]byte, 2*max(0, n-1)), []byte{0, 0})
		if _, e := graph.Read(l); e != want {
			t.Error("scopes", n, e)
		}
	}
	for n, want := range map[int]api.Errno{0: api.OK, 32: api.OK, 33: api.ErrLong} {
		l := slices.Concat(head, []byte{1, byte(n)}, make([]byte, 4*n), []byte{0})
		if _, e := graph.Read(l); e != want {
			t.Error("nodes", n, e)
		}
	}
	for n, want := range map[int]api.Errno{0: api.OK, 64: api.OK, 65: api.ErrLong} {
		l := slices.Concat(head, []byte{1, 1, 0, 0, 0, byte(n)}, make([]byte, 2*n), []byte{0})
		if _, e := graph.Read(l); e != want {
			t.Error("instructions", n, e)
		}
		l = slices.Concat(head, []byte{1, 0, byte(n)}, make([]byte, 4*n))
		if _, e := graph.Read(l); e != want {
			t.Error("edges", n, e)
		}
	}
}

func TestP8_2_TheLastNumberOfAnEdge(t *testing.T) {
	ahead := []byte{'B', 'W', '1', 1, 0, 1, 5, 6, 7}
	g := one()
	g.Edges = []api.Edge{{From: 5, To: 6, Port: 7}}
	reads(t, append(slices.Clone(ahead), 0), g)
	g.Edges[0].Exchange = true
	reads(t, append(slices.Clone(ahead), 1), g)
	for _, n := range []uint64{2, 3, 127, 128, 129, 256, 257, top, top + 1, top + 2, 1 << 32, 1<<32 + 1, 1 << 63, math.MaxUint64} {
		noRead(t, "neither", append(slices.Clone(ahead), slowBytes(n)...), api.ErrForm)
	}
	noRead(t, "it isn't there", ahead, api.ErrShort)
}

// exactly is a graph of so many bytes, some 8000: it has one byte for each number without a sign, and some of them are made longer, by up to four bytes each.
func exactly(t *testing.T, size int) api.Graph {
	g := full(8, 16, 64, 64, row(0), row[int64](-1<<33))
	l, _ := slowPut(g)
	need := size - len(l)
	for _, at := range numbers(&g) {
		d := min(4, need)
		need -= d
		*at = 1 << (7 * d)
	}
	if l, _ := slowPut(g); len(l) != size {
		t.Fatal(len(l), size)
	}
	return g
}

func TestP8_2_TooManyBytes(t *testing.T) {
	for _, size := range []int{8190, 8191, 8192} {
		g := exactly(t, size)
		l, _ := slowPut(g)
		reads(t, l, g)
		noRead(t, "the last byte is cut", l[:size-1], api.ErrShort)
	}
	for _, size := range []int{8193, 8194, 9000} {
		l, _ := slowPut(exactly(t, size))
		noRead(t, "too long", l, api.ErrLong)
	}
	l, _ := slowPut(exactly(t, 8192))
	noRead(t, "one byte is left, but it is too long", append(l, 0), api.ErrLong)
	l, _ = slowPut(exactly(t, 8191))
	noRead(t, "one byte is left", append(l, 0), api.ErrForm)
	for _, x := range []byte{0, 'B', 128, 255} {
		noRead(t, "nothing of it", bytes.Repeat([]byte{x}, 8193), api.ErrLong)
		noRead(t, "very long", bytes.Repeat([]byte{x}, 1<<20), api.ErrLong)
		noRead(t, "not too long", bytes.Repeat([]byte{x}, 8192), api.ErrForm)
	}
}

// Of two errors at two places that one is told which is met first.
func TestP8_2_WhichOfTwo(t *testing.T) {
	l, spots := slowPut(some())
	wrongs := func(at spot) [][]byte {
		w := [][]byte{{128, 0}, append(bytes.Repeat([]byte{255}, 9), 2)}
		if at.what != aSigned {
			w = append(w, slowBytes(top+1))
		}
		if at.what == aScopes {
			w = append(w, []byte{0})
		}
		return w
	}
	for i, a := range spots {
		for _, x := range wrongs(a) {
			want := slowError(swapped(l, a, x))
			for _, b := range spots[i+1:] {
				for _, y := range wrongs(b) {
					noRead(t, "two", swapped(swapped(l, b, y), a, x), want)
				}
			}
			noRead(t, "and a byte more", append(swapped(l, a, x), 0), want)
			noRead(t, "and cut", swapped(l, a, x)[:a.at+len(x)], want)
		}
	}
}

// lists calls f with each list of up to n of the bytes, behind others.
func lists(ahead []byte, n int, of []byte, f func(l []byte)) {
	f(ahead)
	if n > 0 {
		for _, x := range of {
			lists(append(slices.Clone(ahead), x), n-1, of, f)
		}
	}
}

func TestP8_2_AllShortOnes(t *testing.T) {
	try := func(l []byte) { asSlow(t, l) }
	lists(nil, 5, []byte("BW1\x00\x01\x80b"), try)
	lists([]byte("BW1"), 4, []byte{0, 1, 2, 3, 8, 9, 32, 33, 64, 65, 127, 128, 129, 255}, try)
	lists([]byte("BW1\x01"), 9, []byte{0, 1, 128}, try)
	lists([]byte("BW1\x02"), 8, []byte{0, 1, 2, 128}, try)
	lists([]byte("BW1\x01\x01"), 9, []byte{0, 1, 128}, try)
	lists([]byte("BW1\x01\x00\x01"), 6, []byte{0, 1, 2, 128, 255}, try)
}

func TestP8_2_AllBytesOfOneNumber(t *testing.T) {
	for x := range 256 {
		for y := range 256 {
			a, b := byte(x), byte(y)
			asSlow(t, []byte{'B', 'W', '1', a, b})
			asSlow(t, []byte{'B', 'W', '1', 2, 1, a, b, 0})
			asSlow(t, []byte{'B', 'W', '1', 1, 1, 1, 1, a, b, 0})
			asSlow(t, []byte{'B', 'W', '1', 1, 1, 1, 1, a, b, 0, 0})
			asSlow(t, []byte{'B', 'W', '1', 1, 0, 1, 1, 1, 1, a, b})
		}
	}
}

func TestP8_2_ChangedSomewhere(t *testing.T) {
	c := chance(88)
	for i := range 60000 {
		l, _ := slowPut(c.mixed(1 + i%5))
		for range 1 + c.below(2) {
			at := c.below(len(l))
			switch c.below(4) {
			case 0:
				l[at] = byte(c.below(256))
			case 1:
				l[at] ^= 1 << c.below(8)
			case 2:
				l = slices.Delete(l, at, at+1)
			case 3:
				l = slices.Insert(l, at, byte(c.below(256)))
			}
			if len(l) == 0 {
				break
			}
		}
		asSlow(t, l)
	}
}

func TestP8_3_PutIsRead(t *testing.T) {
	for _, g := range graphs() {
		l, e := graph.Put(g)
		switch {
		case e != api.OK:
			t.Fatal(g, e)
		case len(l) > api.MaxBytes:
			noRead(t, "too long", l, api.ErrLong)
		default:
			reads(t, l, g)
			if h, _ := graph.Read(l); !graph.Same(g, h) {
				t.Fatal(g, h)
			}
		}
	}
}

func TestP8_3_ReadIsPut(t *testing.T) {
	c := chance(888)
	for i := range 20000 {
		l, _ := slowPut(c.mixed(1 + i%12))
		if len(l) > api.MaxBytes {
			continue
		}
		g, e := graph.Read(l)
		if e != api.OK {
			t.Fatalf("%x: %d", l, e)
		}
		puts(t, g, l)
	}
}

func TestP8_3_EachPlaceIsReadAsItWas(t *testing.T) {
	g := some()
	try := func() {
		t.Helper()
		l, e := graph.Put(g)
		if e != api.OK {
			t.Fatal(g, e)
		}
		reads(t, l, g)
	}
	for _, at := range numbers(&g) {
		for _, n := range []int{0, 1, 127, 128, 1<<14 - 1, 1 << 14, 1<<21 - 1, 1 << 21, 1<<28 - 1, 1 << 28, top - 1, top} {
			*at = n
			try()
		}
	}
	for _, at := range signed(&g) {
		for i := range 64 {
			for d := range int64(3) {
				*at = 1<<i + d - 1
				try()
				*at = -*at
				try()
			}
		}
	}
	for i := range g.Edges {
		g.Edges[i].Exchange = !g.Edges[i].Exchange
		try()
	}
}

func TestP8_2_NothingHandedInChanges(t *testing.T) {
	good, _ := slowPut(some())
	for _, l := range [][]byte{good, good[:20], append(slices.Clone(good), 1), good[:2], nil, make([]byte, 9000)} {
		part, whole := roomy(l, 0x5a)
		before := slices.Clone(whole)
		graph.Read(part)
		if !bytes.Equal(whole, before) {
			t.Fatal(l)
		}
	}
}

// scribble writes over all that a graph has, its spare room too.
func scribble(g api.Graph) {
	fill(g.Parent, 99)
	fill(g.Bound, 99)
	fill(g.Edges, api.Edge{From: 99})
	for _, n := range g.Nodes {
		fill(n.Prog, api.Ins{Op: 99})
	}
	fill(g.Nodes, api.Node{Kind: 99})
}

// fill writes x over a list and its spare room.
func fill[E any](l []E, x E) {
	l = l[:cap(l)]
	for i := range l {
		l[i] = x
	}
}

func TestP8_2_AnswersAreTheirOwn(t *testing.T) {
	for _, want := range graphs()[:60] {
		l, _ := slowPut(want)
		if len(l) > api.MaxBytes {
			continue
		}
		g, _ := graph.Read(l)
		h, _ := graph.Read(l)
		scribble(g)
		if back, _ := slowPut(want); !bytes.Equal(back, l) {
			t.Fatal("the bytes", l)
		}
		if !alike(h, want) {
			t.Fatal("another answer", h)
		}
		fill(l, 0xee)
		if !alike(h, want) {
			t.Fatal("it hangs on the bytes", h)
		}
	}
}

// Whoever puts something behind one list of an answer changes no other one.
func TestP8_2_ListsShareNothing(t *testing.T) {
	want := full(4, 5, 3, 4, smalls(), signeds())
	l, _ := slowPut(want)
	g, _ := graph.Read(l)
	fill(g.Parent, 99)
	if !slices.Equal(g.Bound, want.Bound) {
		t.Fatal(g.Bound)
	}
	for i := range g.Nodes {
		fill(g.Nodes[i].Prog, api.Ins{Op: 99})
		for j := i + 1; j < len(g.Nodes); j++ {
			if !slices.Equal(g.Nodes[j].Prog, want.Nodes[j].Prog) {
				t.Fatal(i, j)
			}
		}
	}
}
