package wire_test

import (
	"bytes"
	"math"
	"math/big"
	"slices"
	"testing"

	"backwash/api"
	"backwash/wire"
)

const (
	least    = math.MinInt64
	greatest = math.MaxInt64
	all      = math.MaxUint64
)

// b are bytes.
func b(l ...byte) []byte { return l }

// long is the byte x, n times, and others behind it.
func long(n int, x byte, others ...byte) []byte {
	return append(bytes.Repeat(b(x), n), others...)
}

// uints are numbers without a sign: all small ones, the neighbours of each power of two, and some between.
func uints() []uint64 {
	var l []uint64
	for n := range uint64(1 << 15) {
		l = append(l, n, all-n)
	}
	for i := range 64 {
		for d := range uint64(5) {
			l = append(l, 1<<i+d-2)
		}
	}
	for n := uint64(1); len(l) < 70000; n = n*6364136223846793005 + 1442695040888963407 {
		l = append(l, n, n>>(n%64))
	}
	slices.Sort(l)
	return slices.Compact(l)
}

// ints are numbers with a sign: those around 0, the neighbours of each power of two and of its opposite, both ends, and some between.
func ints() []int64 {
	var l []int64
	for _, n := range uints() {
		l = append(l, int64(n), -int64(n))
	}
	slices.Sort(l)
	return slices.Compact(l)
}

// slowBytes are the bytes that the chapter gives a number, worked out of it by division alone.
func slowBytes(n *big.Int) []byte {
	var l []byte
	rest, digit := new(big.Int).Set(n), new(big.Int)
	for {
		rest.DivMod(rest, big.NewInt(128), digit)
		if rest.Sign() == 0 {
			return append(l, byte(digit.Int64()))
		}
		l = append(l, byte(digit.Int64()+128))
	}
}

// slowUint are the bytes of a number without a sign.
func slowUint(n uint64) []byte { return slowBytes(new(big.Int).SetUint64(n)) }

// slowSign is a number with a sign as one without, in numbers that have no end.
func slowSign(n int64) *big.Int {
	double := new(big.Int).Mul(big.NewInt(2), big.NewInt(n))
	if n < 0 {
		return double.Sub(big.NewInt(-1), double)
	}
	return double
}

// slowInt are the bytes of a number with a sign.
func slowInt(n int64) []byte { return slowBytes(slowSign(n)) }

// slowRead goes by the promise's words: the number whose bytes stand at the beginning; or the list is a beginning of some number's bytes; or it is none.
func slowRead(l []byte) (uint64, int, api.Errno) {
	end := slices.IndexFunc(l, func(x byte) bool { return x < 128 })
	if end >= 0 {
		n := new(big.Int)
		for _, x := range slices.Backward(l[:end+1]) {
			n.Mul(n, big.NewInt(128)).Add(n, big.NewInt(int64(x%128)))
		}
		if n.IsUint64() && bytes.Equal(slowBytes(n), l[:end+1]) {
			return n.Uint64(), end + 1, api.OK
		}
		return 0, 0, api.ErrForm
	}
	if len(l) < 10 {
		return 0, 0, api.ErrShort
	}
	return 0, 0, api.ErrForm
}

// slowReadInt is the same of a number with a sign, found by looking at both that it could be.
func slowReadInt(l []byte) (int64, int, api.Errno) {
	n, size, e := slowRead(l)
	for _, m := range []int64{int64(n / 2), -int64(n/2) - 1} {
		if want := slowSign(m); want.IsUint64() && want.Uint64() == n {
			return m, size, e
		}
	}
	panic("no number stands so")
}

// readsUint holds ReadUint against an answer.
func readsUint(t *testing.T, l []byte, n uint64, size int, e api.Errno) {
	t.Helper()
	if gotN, gotSize, gotE := wire.ReadUint(l); gotN != n || gotSize != size || gotE != e {
		t.Fatalf("ReadUint(%v) = %d, %d, %d, not %d, %d, %d", l, gotN, gotSize, gotE, n, size, e)
	}
}

// readsInt holds ReadInt against an answer.
func readsInt(t *testing.T, l []byte, n int64, size int, e api.Errno) {
	t.Helper()
	if gotN, gotSize, gotE := wire.ReadInt(l); gotN != n || gotSize != size || gotE != e {
		t.Fatalf("ReadInt(%v) = %d, %d, %d, not %d, %d, %d", l, gotN, gotSize, gotE, n, size, e)
	}
}

// fails asks that both give an error, and nothing beside it.
func fails(t *testing.T, l []byte, e api.Errno) {
	t.Helper()
	readsUint(t, l, 0, 0, e)
	readsInt(t, l, 0, 0, e)
}

// lists calls f with each list of up to n of the bytes.
func lists(n int, of []byte, f func(l []byte)) {
	var grow func(l []byte)
	grow = func(l []byte) {
		f(l)
		if len(l) < n {
			for _, x := range of {
				grow(append(slices.Clone(l), x))
			}
		}
	}
	grow(nil)
}

// roomy is a copy with spare room behind it, and the whole of that room.
func roomy(l []byte) ([]byte, []byte) {
	whole := slices.Concat(l, long(30, 0x5a))
	return whole[:len(l)], whole
}

// scribble writes over bytes and their spare room.
func scribble(l []byte) {
	l = l[:cap(l)]
	for i := range l {
		l[i] = 0xee
	}
}

// pair is a number with its bytes.
type pair[N any] struct {
	n    N
	want []byte
}

// uintEdges are the last number of each length, and the first of the next one, with their bytes.
func uintEdges() []pair[uint64] {
	return []pair[uint64]{
		{0, b(0)}, {1, b(1)}, {2, b(2)}, {63, b(63)}, {64, b(64)}, {126, b(126)}, {127, b(127)},
		{128, b(128, 1)}, {129, b(129, 1)}, {255, b(255, 1)}, {256, b(128, 2)}, {300, b(0xac, 2)}, {1000, b(0xe8, 7)}, {1<<14 - 1, b(255, 127)},
		{1 << 14, b(128, 128, 1)}, {1<<14 + 1, b(129, 128, 1)}, {100000, b(0xa0, 0x8d, 6)}, {1<<21 - 1, b(255, 255, 127)},
		{1 << 21, long(3, 128, 1)}, {1<<28 - 1, long(3, 255, 127)},
		{1 << 28, long(4, 128, 1)}, {1<<31 - 1, long(4, 255, 7)}, {1 << 31, long(4, 128, 8)}, {1<<32 - 1, long(4, 255, 15)}, {1 << 32, long(4, 128, 16)}, {1<<35 - 1, long(4, 255, 127)},
		{1 << 35, long(5, 128, 1)}, {1<<42 - 1, long(5, 255, 127)},
		{1 << 42, long(6, 128, 1)}, {1<<49 - 1, long(6, 255, 127)},
		{1 << 49, long(7, 128, 1)}, {1<<56 - 1, long(7, 255, 127)},
		{1 << 56, long(8, 128, 1)}, {1<<63 - 1, long(8, 255, 127)},
		{1 << 63, long(9, 128, 1)}, {1<<63 + 1, b(129, 128, 128, 128, 128, 128, 128, 128, 128, 1)}, {all - 1, b(254, 255, 255, 255, 255, 255, 255, 255, 255, 1)}, {all, long(9, 255, 1)},
	}
}

// intEdges are the same of numbers with a sign.
func intEdges() []pair[int64] {
	return []pair[int64]{
		{0, b(0)}, {-1, b(1)}, {1, b(2)}, {-2, b(3)}, {2, b(4)}, {-3, b(5)}, {5, b(10)}, {-5, b(9)}, {63, b(126)}, {-64, b(127)},
		{64, b(128, 1)}, {-65, b(129, 1)}, {150, b(0xac, 2)}, {-150, b(0xab, 2)}, {1<<13 - 1, b(254, 127)}, {-1 << 13, b(255, 127)},
		{1 << 13, b(128, 128, 1)}, {-1<<13 - 1, b(129, 128, 1)}, {1<<20 - 1, b(254, 255, 127)}, {-1 << 20, b(255, 255, 127)},
		{1 << 20, long(3, 128, 1)}, {-1 << 27, long(3, 255, 127)},
		{1 << 27, long(4, 128, 1)}, {1 << 31, long(4, 128, 16)}, {-1 << 31, long(4, 255, 15)}, {-1 << 34, long(4, 255, 127)},
		{1 << 34, long(5, 128, 1)}, {-1 << 41, long(5, 255, 127)},
		{1 << 41, long(6, 128, 1)}, {-1 << 48, long(6, 255, 127)},
		{1 << 48, long(7, 128, 1)}, {-1 << 55, long(7, 255, 127)},
		{1 << 55, long(8, 128, 1)}, {1<<62 - 1, b(254, 255, 255, 255, 255, 255, 255, 255, 127)}, {-1 << 62, long(8, 255, 127)},
		{1 << 62, long(9, 128, 1)}, {-1<<62 - 1, b(129, 128, 128, 128, 128, 128, 128, 128, 128, 1)}, {least + 1, b(253, 255, 255, 255, 255, 255, 255, 255, 255, 1)},
		{greatest, b(254, 255, 255, 255, 255, 255, 255, 255, 255, 1)}, {least, long(9, 255, 1)},
	}
}

func TestP6_1_UintAtTheEdges(t *testing.T) {
	for _, c := range uintEdges() {
		if got := wire.Uint(nil, c.n); !bytes.Equal(got, c.want) {
			t.Errorf("Uint(%d) = %v, not %v", c.n, got, c.want)
		}
	}
}

func TestP6_1_IntAtTheEdges(t *testing.T) {
	for _, c := range intEdges() {
		if got := wire.Int(nil, c.n); !bytes.Equal(got, c.want) {
			t.Errorf("Int(%d) = %v, not %v", c.n, got, c.want)
		}
	}
}

// As few bytes as can be: one more from each power of 128 on, ten at most.
func TestP6_1_HowManyBytes(t *testing.T) {
	for size := 1; size <= 9; size++ {
		first := uint64(1) << (7 * size)
		if last, next := wire.Uint(nil, first-1), wire.Uint(nil, first); len(last) != size || len(next) != size+1 {
			t.Errorf("%d has %d bytes, %d has %d", first-1, len(last), first, len(next))
		}
		half := int64(1) << (7*size - 1)
		if last, next := wire.Int(nil, half-1), wire.Int(nil, half); len(last) != size || len(next) != size+1 {
			t.Errorf("%d has %d bytes, %d has %d", half-1, len(last), half, len(next))
		}
		if last, next := wire.Int(nil, -half), wire.Int(nil, -half-1); len(last) != size || len(next) != size+1 {
			t.Errorf("%d has %d bytes, %d has %d", -half, len(last), -half-1, len(next))
		}
	}
	if one, two, three := wire.Uint(nil, all), wire.Int(nil, greatest), wire.Int(nil, least); len(one) != 10 || len(two) != 10 || len(three) != 10 {
		t.Errorf("the greatest ones: %v, %v, %v", one, two, three)
	}
}

func TestP6_1_ManyNumbers(t *testing.T) {
	for _, n := range uints() {
		if got, want := wire.Uint(nil, n), slowUint(n); !bytes.Equal(got, want) {
			t.Fatalf("Uint(%d) = %v, not %v", n, got, want)
		}
	}
	for _, n := range ints() {
		if got, want := wire.Int(nil, n), slowInt(n); !bytes.Equal(got, want) {
			t.Fatalf("Int(%d) = %v, not %v", n, got, want)
		}
	}
}

// What stands ahead stays ahead, whatever it is: other numbers, half ones, long ones.
func TestP6_1_BytesAhead(t *testing.T) {
	for _, ahead := range [][]byte{nil, {}, b(0), b(9), b(128), b(255, 255), b(0, 0, 0), long(9, 255, 1), long(10, 128), long(3000, 200), long(7, 0)} {
		for _, c := range uintEdges() {
			if got := wire.Uint(ahead, c.n); !bytes.Equal(got, slices.Concat(ahead, c.want)) {
				t.Fatalf("Uint(%v, %d) = %v", ahead, c.n, got)
			}
		}
		for _, c := range intEdges() {
			if got := wire.Int(ahead, c.n); !bytes.Equal(got, slices.Concat(ahead, c.want)) {
				t.Fatalf("Int(%v, %d) = %v", ahead, c.n, got)
			}
		}
	}
}

// Neither the bytes that are handed in nor their spare room change, and the answer shares nothing with them.
func TestP6_1_NothingHandedInChanges(t *testing.T) {
	for _, ahead := range [][]byte{nil, b(1), b(128, 2, 3), long(40, 7)} {
		l, room := roomy(ahead)
		was := slices.Clone(room)
		for _, c := range uintEdges() {
			scribble(wire.Uint(l, c.n))
		}
		for _, c := range intEdges() {
			scribble(wire.Int(l, c.n))
		}
		if !bytes.Equal(room, was) {
			t.Fatalf("%v became %v", was, room)
		}
	}
}

// Answers share nothing with one another either, be they put behind the same bytes or one behind the other.
func TestP6_1_AnswersAreTheirOwn(t *testing.T) {
	l, _ := roomy(b(4, 5))
	one, two, three := wire.Uint(l, 1), wire.Uint(l, 300), wire.Int(l, -1)
	behind, other := wire.Uint(one, 2), wire.Int(one, 3)
	scribble(two)
	if !bytes.Equal(one, b(4, 5, 1)) || !bytes.Equal(three, b(4, 5, 1)) || !bytes.Equal(behind, b(4, 5, 1, 2)) || !bytes.Equal(other, b(4, 5, 1, 6)) {
		t.Errorf("%v, %v, %v, %v", one, three, behind, other)
	}
	scribble(one)
	if !bytes.Equal(behind, b(4, 5, 1, 2)) || !bytes.Equal(other, b(4, 5, 1, 6)) {
		t.Errorf("%v, %v", behind, other)
	}
	scribble(behind)
	if !bytes.Equal(other, b(4, 5, 1, 6)) {
		t.Errorf("%v", other)
	}
}

func TestP6_2_ReadUintAtTheEdges(t *testing.T) {
	for _, c := range uintEdges() {
		readsUint(t, c.want, c.n, len(c.want), api.OK)
	}
}

func TestP6_2_ReadIntAtTheEdges(t *testing.T) {
	for _, c := range intEdges() {
		readsInt(t, c.want, c.n, len(c.want), api.OK)
	}
}

func TestP6_2_ManyNumbers(t *testing.T) {
	for _, n := range uints() {
		l := slowUint(n)
		readsUint(t, l, n, len(l), api.OK)
	}
	for _, n := range ints() {
		l := slowInt(n)
		readsInt(t, l, n, len(l), api.OK)
	}
}

// The same bytes are one number without a sign, and another one with it.
func TestP6_2_WithAndWithoutASign(t *testing.T) {
	for _, c := range []struct {
		l []byte
		n uint64
		m int64
	}{{b(0), 0, 0}, {b(1), 1, -1}, {b(2), 2, 1}, {b(127), 127, -64}, {b(128, 1), 128, 64}, {b(129, 1), 129, -65}, {long(9, 128, 1), 1 << 63, 1 << 62}, {long(8, 255, 127), 1<<63 - 1, -1 << 62}, {long(9, 255, 1), all, least}, {b(254, 255, 255, 255, 255, 255, 255, 255, 255, 1), all - 1, greatest}} {
		readsUint(t, c.l, c.n, len(c.l), api.OK)
		readsInt(t, c.l, c.m, len(c.l), api.OK)
	}
}

func TestP6_2_NoBytesAtAll(t *testing.T) {
	fails(t, nil, api.ErrShort)
	fails(t, b(), api.ErrShort)
	l, _ := roomy(nil)
	fails(t, l, api.ErrShort)
	l, _ = roomy(b(200))
	fails(t, l, api.ErrShort)
}

// Cut at each place, be there bytes in the spare room or not.
func TestP6_2_BytesEndWithinANumber(t *testing.T) {
	for _, c := range uintEdges() {
		for i := range c.want {
			fails(t, c.want[:i], api.ErrShort)
			fails(t, slices.Clone(c.want[:i]), api.ErrShort)
		}
	}
	for _, c := range intEdges() {
		for i := range c.want {
			fails(t, c.want[:i], api.ErrShort)
		}
	}
	for size := range 10 {
		for _, x := range []byte{128, 129, 200, 254, 255} {
			fails(t, long(size, x), api.ErrShort)
		}
	}
}

// Of ten bytes the last one is 1, or there are too many bits: any other one is told, more bytes behind it or not.
func TestP6_2_TheTenthByte(t *testing.T) {
	for _, ahead := range [][]byte{long(9, 128), long(9, 255), b(255, 128, 200, 129, 128, 255, 254, 130, 128), b(129, 128, 128, 128, 128, 128, 128, 128, 128)} {
		for last := range 256 {
			for _, behind := range [][]byte{nil, b(0), b(1), b(2), b(128), b(255, 1), long(20, 255)} {
				l := slices.Concat(ahead, b(byte(last)), behind)
				if last != 1 {
					fails(t, l, api.ErrForm)
					continue
				}
				n, size, e := slowRead(l)
				if size != 10 || e != api.OK {
					t.Fatal(l, n, size, e)
				}
				readsUint(t, l, n, 10, api.OK)
				m, _, _ := slowReadInt(l)
				readsInt(t, l, m, 10, api.OK)
			}
		}
	}
}

// A last byte 0 is one more than is needed, but for the number 0, whose only one it is.
func TestP6_2_MoreBytesThanNeeded(t *testing.T) {
	for size := 1; size <= 9; size++ {
		for _, x := range []byte{128, 129, 254, 255} {
			fails(t, long(size, x, 0), api.ErrForm)
			fails(t, long(size, x, 0, 0), api.ErrForm)
			fails(t, long(size, x, 0, 128), api.ErrForm)
			fails(t, long(size, x, 0, 1, 2, 3), api.ErrForm)
		}
	}
	for _, c := range uintEdges() {
		l := slices.Clone(c.want)
		l[len(l)-1] += 128
		fails(t, append(l, 0), api.ErrForm)
	}
	for _, behind := range [][]byte{nil, b(0), b(0, 0), b(1), b(128), b(255), long(10, 128)} {
		l := append(b(0), behind...)
		readsUint(t, l, 0, 1, api.OK)
		readsInt(t, l, 0, 1, api.OK)
	}
}

// What comes first, byte by byte: a byte that is wrong is told though what stands behind it is wrong in another way; what ends is told ahead of what would have come.
func TestP6_2_WhatIsToldFirst(t *testing.T) {
	for _, c := range []struct {
		l []byte
		e api.Errno
	}{
		{b(128), api.ErrShort}, {b(128, 0), api.ErrForm}, {b(128, 0, 128), api.ErrForm}, {b(128, 128), api.ErrShort}, {b(128, 128, 0), api.ErrForm},
		{long(8, 255), api.ErrShort}, {long(8, 255, 0), api.ErrForm}, {long(8, 255, 255), api.ErrShort}, {long(9, 128), api.ErrShort}, {long(9, 128, 0), api.ErrForm},
		{long(9, 128, 2), api.ErrForm}, {long(9, 128, 127), api.ErrForm}, {long(10, 128), api.ErrForm}, {long(10, 255), api.ErrForm}, {long(9, 128, 129), api.ErrForm},
		{long(11, 128), api.ErrForm}, {long(10, 128, 0), api.ErrForm}, {long(10, 128, 1), api.ErrForm}, {long(9, 128, 129, 0), api.ErrForm}, {long(9, 128, 130, 1), api.ErrForm},
		{b(128, 0, 0, 0, 0, 0, 0, 0, 0, 2), api.ErrForm}, {long(1<<20, 255), api.ErrForm}, {long(1<<20, 128, 0), api.ErrForm},
	} {
		fails(t, c.l, c.e)
	}
	for _, behind := range [][]byte{b(128), b(128, 0), long(9, 128), long(10, 128), long(1<<20, 255)} {
		readsUint(t, append(b(1), behind...), 1, 1, api.OK)
		readsInt(t, append(b(128, 1), behind...), 64, 2, api.OK)
	}
}

// All short lists of mixed bytes, by themselves and behind so many bytes that the tenth one is among them.
func TestP6_2_AllLists(t *testing.T) {
	hold := func(l []byte) {
		n, size, e := slowRead(l)
		readsUint(t, l, n, size, e)
		m, size, e := slowReadInt(l)
		readsInt(t, l, m, size, e)
	}
	mixed := b(0, 1, 2, 63, 64, 127, 128, 129, 254, 255)
	lists(4, mixed, hold)
	for size := 1; size <= 10; size++ {
		for _, x := range []byte{128, 129, 255} {
			lists(3, mixed, func(l []byte) { hold(slices.Concat(long(size, x), l)) })
		}
	}
	for one := range 256 {
		hold(b(byte(one)))
		for two := range 256 {
			hold(b(byte(one), byte(two)))
		}
	}
}

// What is read stays as it is, and what stands in the spare room is not read.
func TestP6_2_NothingHandedInChanges(t *testing.T) {
	lists(3, b(0, 1, 127, 128, 255), func(list []byte) {
		for _, size := range []int{0, 7, 8, 9} {
			l, room := roomy(slices.Concat(long(size, 255), list))
			was := slices.Clone(room)
			n, many, e := slowRead(l)
			readsUint(t, l, n, many, e)
			m, many, e := slowReadInt(l)
			readsInt(t, l, m, many, e)
			if !bytes.Equal(room, was) {
				t.Fatalf("%v became %v", was, room)
			}
		}
	})
}

func TestP6_3_WhatWasPutIsRead(t *testing.T) {
	for _, n := range uints() {
		l := wire.Uint(nil, n)
		readsUint(t, l, n, len(l), api.OK)
	}
	for _, n := range ints() {
		l := wire.Int(nil, n)
		readsInt(t, l, n, len(l), api.OK)
	}
}

func TestP6_3_WhateverStandsBehindIt(t *testing.T) {
	for _, behind := range [][]byte{b(0), b(0, 0), b(1), b(127), b(128), b(255), b(128, 0), long(9, 255, 1), long(9, 255, 2), long(12, 128), long(40, 0), long(2000, 255)} {
		for _, c := range uintEdges() {
			l := wire.Uint(nil, c.n)
			readsUint(t, append(l, behind...), c.n, len(c.want), api.OK)
		}
		for _, c := range intEdges() {
			l := wire.Int(nil, c.n)
			readsInt(t, append(l, behind...), c.n, len(c.want), api.OK)
		}
	}
}

// Numbers of both kinds, one behind the other, are read one by one, and nothing is left.
func TestP6_3_OneBehindTheOther(t *testing.T) {
	var l []byte
	for i, c := range uintEdges() {
		l = wire.Int(wire.Uint(l, c.n), intEdges()[i].n)
	}
	for i, c := range uintEdges() {
		readsUint(t, l, c.n, len(c.want), api.OK)
		l = l[len(c.want):]
		d := intEdges()[i]
		readsInt(t, l, d.n, len(d.want), api.OK)
		l = l[len(d.want):]
	}
	if len(l) != 0 {
		t.Errorf("left: %v", l)
	}
}

// beginsNone asks that none of the bytes begins, or is, another one. In order a beginning stands ahead of what it begins, and what stands between them begins with it, too: so neighbours tell.
func beginsNone(t *testing.T, l [][]byte) {
	slices.SortFunc(l, bytes.Compare)
	for i := 1; i < len(l); i++ {
		if bytes.HasPrefix(l[i], l[i-1]) {
			t.Fatalf("%v begins with %v", l[i], l[i-1])
		}
	}
}

func TestP6_3_NoNumbersBytesBeginEachOther(t *testing.T) {
	var without, with [][]byte
	for _, n := range uints() {
		without = append(without, wire.Uint(nil, n))
	}
	for _, n := range ints() {
		with = append(with, wire.Int(nil, n))
	}
	beginsNone(t, without)
	beginsNone(t, with)
}

// What is read is put as it was: no number has other bytes that are taken for it.
func TestP6_3_WhatIsReadIsPutAsItWas(t *testing.T) {
	met := 0
	hold := func(l []byte) {
		if n, size, e := wire.ReadUint(l); e == api.OK {
			met++
			if got := wire.Uint(nil, n); !bytes.Equal(got, l[:size]) {
				t.Fatalf("%v was read as %d, which is put as %v", l, n, got)
			}
		}
		if n, size, e := wire.ReadInt(l); e == api.OK {
			met++
			if got := wire.Int(nil, n); !bytes.Equal(got, l[:size]) {
				t.Fatalf("%v was read as %d, which is put as %v", l, n, got)
			}
		}
	}
	for _, size := range []int{0, 1, 6, 7, 8, 9} {
		lists(3, b(0, 1, 2, 64, 127, 128, 129, 255), func(l []byte) { hold(slices.Concat(long(size, 200), l)) })
	}
	if met == 0 {
		t.Error("nothing was read")
	}
}

func TestP6_3_TheExamples(t *testing.T) {
	if got := wire.Uint(nil, 300); !bytes.Equal(got, b(0xac, 2)) {
		t.Errorf("300: %v", got)
	}
	if got := wire.Int(nil, -1); !bytes.Equal(got, b(1)) {
		t.Errorf("-1: %v", got)
	}
	fails(t, b(128, 0), api.ErrForm)
}
