package prog_test

import (
	"math"
	"math/big"
	"slices"
	"testing"

	"backwash/api"
	"backwash/prog"
)

const (
	least    = math.MinInt64
	greatest = math.MaxInt64
)

// The instructions that have no number, and the record that most runs are of.
var (
	key, val, add, sub        = api.Ins{Op: api.OpKey}, api.Ins{Op: api.OpVal}, api.Ins{Op: api.OpAdd}, api.Ins{Op: api.OpSub}
	mul, div, mod, less, same = api.Ins{Op: api.OpMul}, api.Ins{Op: api.OpDiv}, api.Ins{Op: api.OpMod}, api.Ins{Op: api.OpLess}, api.Ins{Op: api.OpSame}
	dup, swap, drop, emit     = api.Ins{Op: api.OpDup}, api.Ins{Op: api.OpSwap}, api.Ins{Op: api.OpDrop}, api.Ins{Op: api.OpEmit}
	rec                       = api.Rec{K: 3, V: 4}
)

func push(n int64) api.Ins { return api.Ins{Op: api.OpPush, N: n} }
func jump(n int64) api.Ins { return api.Ins{Op: api.OpJump, N: n} }
func zero(n int64) api.Ins { return api.Ins{Op: api.OpZero, N: n} }

// plain are the instructions whose number is 0.
func plain() []api.Ins {
	return []api.Ins{key, val, add, sub, mul, div, mod, less, same, dup, swap, drop, emit}
}

// p is a program.
func p(l ...api.Ins) []api.Ins { return l }

// times is a program so many times, one behind the other.
func times(n int, l ...api.Ins) []api.Ins { return slices.Repeat(l, n) }

// join puts programs one behind the other.
func join(l ...[]api.Ins) []api.Ins { return slices.Concat(l...) }

// told is what comes of a record with an error.
func told(r api.Rec, bad int) []api.Rec {
	return []api.Rec{{K: r.K, V: least + int64(bad)}}
}

// only are the records, if it is so, else none.
func only(so bool, l ...api.Rec) []api.Rec {
	if so {
		return l
	}
	return nil
}

// runs holds a run of a record against what should come of it, or against an error.
func runs(t *testing.T, l []api.Ins, r api.Rec, want []api.Rec, bad int) {
	t.Helper()
	if !prog.Right(l) {
		t.Fatalf("not right: %v", l)
	}
	if bad != 0 {
		want = told(r, bad)
	}
	if got, e := prog.Run(l, r); !slices.Equal(got, want) || e != bad {
		t.Fatalf("Run(%v, %v) = %v, %d, not %v, %d", l, r, got, e, want, bad)
	}
}

// gives holds a run of the record (3 4) against records.
func gives(t *testing.T, l []api.Ins, want ...api.Rec) {
	t.Helper()
	runs(t, l, rec, want, 0)
}

// fails holds a run of the record (3 4) against an error.
func fails(t *testing.T, bad int, l ...api.Ins) {
	t.Helper()
	runs(t, l, rec, nil, bad)
}

// leaves asks which numbers a program leaves on its stack, the topmost last: they are emitted one by one, each with how many of them are below it as its key, and then one more take finds none.
func leaves(t *testing.T, l []api.Ins, want ...int64) {
	t.Helper()
	out, records := slices.Clone(l), []api.Rec(nil)
	for i := len(want) - 1; i >= 0; i-- {
		out = append(out, push(int64(i)), swap, emit)
		records = append(records, api.Rec{K: int64(i), V: want[i]})
	}
	gives(t, out, records...)
	fails(t, api.BadStack, append(out, drop)...)
}

// refused asks that a program isn't right, and nothing comes of it.
func refused(t *testing.T, l []api.Ins) {
	t.Helper()
	if prog.Right(l) {
		t.Errorf("right: %v", l)
	}
	if got, bad := prog.Run(l, rec); len(got) != 0 || bad != 0 {
		t.Errorf("Run(%v) = %v, %d", l, got, bad)
	}
}

// numbers are those around 0, around each power of two and its opposite, both ends, and the square root of the greatest one.
func numbers() []int64 {
	l := []int64{least, least + 1, least / 3, -3037000500, -3037000499, 3037000499, 3037000500, greatest / 3, greatest - 1, greatest, 10, -10, 1000000007}
	for i := range 63 {
		for d := range int64(3) {
			l = append(l, 1<<i+d-1, -1<<i-d+1)
		}
	}
	slices.Sort(l)
	return slices.Compact(l)
}

func TestP7_1_RightIsNoneAndFew(t *testing.T) {
	for _, l := range [][]api.Ins{nil, {}, p(key, val, push(1), add, emit), p(push(0)), p(jump(0)), p(jump(1)), p(zero(0)), p(zero(1)), plain()} {
		if !prog.Right(l) {
			t.Errorf("not right: %v", l)
		}
	}
	gives(t, nil)
	gives(t, p())
}

func TestP7_1_RightUpTo64(t *testing.T) {
	for _, x := range append(plain(), push(5), jump(0), zero(0), jump(64), zero(64)) {
		if l := times(64, x); !prog.Right(l) {
			t.Errorf("not right: 64 times %v", x)
		}
		refused(t, times(65, x))
		refused(t, times(66, x))
		refused(t, times(5000, x))
	}
}

func TestP7_1_RightOps(t *testing.T) {
	for op := -40; op <= 60; op++ {
		if l := p(api.Ins{Op: op}); prog.Right(l) != (1 <= op && op <= 16) {
			t.Errorf("Op %d: %v", op, prog.Right(l))
		}
	}
	for _, op := range []int{math.MinInt, math.MinInt + 1, -1 << 32, 1<<8 + 1, 1<<16 + 2, 1<<32 + 1, 1<<32 + 16, math.MaxInt} {
		refused(t, p(api.Ins{Op: op}))
	}
}

func TestP7_1_RightNumbers(t *testing.T) {
	wrong := []int64{least, -1 << 32, -2, -1, 1, 2, 64, 1 << 31, 1 << 32, greatest}
	for _, x := range plain() {
		for _, n := range wrong {
			refused(t, p(api.Ins{Op: x.Op, N: n}))
			refused(t, append(times(63, key), api.Ins{Op: x.Op, N: n}))
		}
	}
	for _, n := range append(wrong, 0) {
		if !prog.Right(p(push(n))) {
			t.Errorf("not right: push %d", n)
		}
	}
}

// A jump goes from 0 to how many instructions there are, wherever it stands.
func TestP7_1_RightJumps(t *testing.T) {
	for size := int64(1); size <= 64; size++ {
		for _, at := range []int64{0, size / 2, size - 1} {
			for _, op := range []int{api.OpJump, api.OpZero} {
				l := times(int(size), key)
				for n := int64(-3); n <= 70; n++ {
					l[at] = api.Ins{Op: op, N: n}
					if prog.Right(l) != (0 <= n && n <= size) {
						t.Fatalf("Op %d to %d of %d: %v", op, n, size, prog.Right(l))
					}
				}
				for _, n := range []int64{-1, size + 1, least, least + 1, -1 << 32, 1 << 32, 1<<32 + 1, 1 << 62, greatest} {
					l[at] = api.Ins{Op: op, N: n}
					refused(t, l)
				}
			}
		}
	}
}

// One wrong instruction makes a program wrong, wherever it stands, and though no run comes there.
func TestP7_1_OneWrongInstruction(t *testing.T) {
	for _, x := range p(api.Ins{}, api.Ins{Op: 17}, api.Ins{Op: -1}, api.Ins{Op: api.OpEmit, N: 1}, api.Ins{Op: api.OpKey, N: -1}, jump(9), zero(-1)) {
		for at := range 8 {
			l := join(p(key, val, emit), times(5, jump(8)))
			l[at] = x
			refused(t, l)
		}
	}
	refused(t, p(key, val, emit, jump(5), api.Ins{Op: api.OpDup, N: 1}))
	refused(t, p(drop, api.Ins{Op: 0}))
	refused(t, p(jump(0), api.Ins{Op: 20}))
}

func TestP7_1_NumbersArePut(t *testing.T) {
	for _, n := range numbers() {
		leaves(t, p(push(n)), n)
		runs(t, p(key, val, emit), api.Rec{K: n, V: 7}, []api.Rec{{K: n, V: 7}}, 0)
		runs(t, p(val, key, emit), api.Rec{K: n, V: 7}, []api.Rec{{K: 7, V: n}}, 0)
		runs(t, p(push(2), val, emit), api.Rec{K: 7, V: n}, []api.Rec{{K: 2, V: n}}, 0)
	}
	leaves(t, p(key), 3)
	leaves(t, p(val), 4)
	leaves(t, p(key, push(-9), val), 3, -9, 4)
}

// far is the number, if it has room in 64 bits.
func far(n *big.Int) (int64, int) {
	if !n.IsInt64() {
		return 0, api.BadOver
	}
	return n.Int64(), 0
}

// slowTwo goes by the chapter's words, in numbers that have no end.
func slowTwo(op int, low, top int64) (int64, int) {
	a, b, n := big.NewInt(low), big.NewInt(top), new(big.Int)
	switch op {
	case api.OpAdd:
		n.Add(a, b)
	case api.OpSub:
		n.Sub(a, b)
	case api.OpMul:
		n.Mul(a, b)
	case api.OpDiv, api.OpMod:
		if b.Sign() == 0 {
			return 0, api.BadZero
		}
		rest := new(big.Int)
		n.QuoRem(a, b, rest)
		if op == api.OpMod {
			n = rest
		}
	case api.OpLess:
		if a.Cmp(b) < 0 {
			n.SetInt64(1)
		}
	case api.OpSame:
		if a.Cmp(b) == 0 {
			n.SetInt64(1)
		}
	}
	return far(n)
}

// Each of two numbers with each other one, of all that there are.
func TestP7_1_TwoNumbers(t *testing.T) {
	met := [7][6]int{}
	for op := api.OpAdd; op <= api.OpSame; op++ {
		for _, low := range numbers() {
			for _, top := range numbers() {
				n, bad := slowTwo(op, low, top)
				met[op-api.OpAdd][bad]++
				runs(t, p(push(5), push(low), push(top), api.Ins{Op: op}, emit), rec, []api.Rec{{K: 5, V: n}}, bad)
			}
		}
	}
	for op, l := range met {
		over, by0 := op <= api.OpDiv-api.OpAdd, op == api.OpDiv-api.OpAdd || op == api.OpMod-api.OpAdd
		if l[0] == 0 || (l[api.BadOver] > 0) != over || (l[api.BadZero] > 0) != by0 {
			t.Errorf("Op %d: %v", op+api.OpAdd, l)
		}
	}
}

func TestP7_1_SumsAndDifferences(t *testing.T) {
	for _, c := range []struct {
		op        api.Ins
		low, top  int64
		want, bad int64
	}{
		{add, 3, 4, 7, 0}, {add, -3, 1, -2, 0}, {add, 0, 0, 0, 0}, {add, greatest, 0, greatest, 0}, {add, greatest - 1, 1, greatest, 0}, {add, greatest, 1, 0, api.BadOver}, {add, 1, greatest, 0, api.BadOver},
		{add, least + 1, -1, least, 0}, {add, least, -1, 0, api.BadOver}, {add, -1, least, 0, api.BadOver}, {add, least, greatest, -1, 0}, {add, least, least, 0, api.BadOver}, {add, greatest, greatest, 0, api.BadOver}, {add, 1 << 62, 1 << 62, 0, api.BadOver}, {add, 1 << 62, 1<<62 - 1, greatest, 0}, {add, -1 << 62, -1 << 62, least, 0}, {add, -1 << 62, -1<<62 - 1, 0, api.BadOver},
		{sub, 3, 4, -1, 0}, {sub, 4, 3, 1, 0}, {sub, 0, 5, -5, 0}, {sub, 0, greatest, -greatest, 0}, {sub, -1, greatest, least, 0}, {sub, -2, greatest, 0, api.BadOver}, {sub, 0, least, 0, api.BadOver}, {sub, -1, least, greatest, 0}, {sub, least, least, 0, 0}, {sub, greatest, greatest, 0, 0}, {sub, greatest, -1, 0, api.BadOver}, {sub, least, 1, 0, api.BadOver}, {sub, least + 1, 1, least, 0}, {sub, greatest, least, 0, api.BadOver}, {sub, least, greatest, 0, api.BadOver},
	} {
		runs(t, p(push(1), push(c.low), push(c.top), c.op, emit), rec, []api.Rec{{K: 1, V: c.want}}, int(c.bad))
	}
}

func TestP7_1_ProductsQuotientsRests(t *testing.T) {
	for _, c := range []struct {
		op        api.Ins
		low, top  int64
		want, bad int64
	}{
		{mul, 3, 4, 12, 0}, {mul, -3, 4, -12, 0}, {mul, 3, -4, -12, 0}, {mul, -3, -4, 12, 0}, {mul, 0, least, 0, 0}, {mul, least, 0, 0, 0}, {mul, least, 1, least, 0}, {mul, 1, least, least, 0}, {mul, least, -1, 0, api.BadOver}, {mul, -1, least, 0, api.BadOver}, {mul, greatest, -1, -greatest, 0}, {mul, -1, greatest, -greatest, 0},
		{mul, 1 << 31, 1 << 31, 1 << 62, 0}, {mul, 1 << 32, 1 << 31, 0, api.BadOver}, {mul, -1 << 32, 1 << 31, least, 0}, {mul, 1 << 32, -1 << 31, least, 0}, {mul, -1 << 32, -1 << 31, 0, api.BadOver}, {mul, 1 << 32, 1 << 32, 0, api.BadOver}, {mul, 3037000499, 3037000499, 9223372030926249001, 0}, {mul, 3037000500, 3037000500, 0, api.BadOver}, {mul, greatest, 2, 0, api.BadOver}, {mul, least, 2, 0, api.BadOver}, {mul, -1 << 62, 2, least, 0}, {mul, 2, -1 << 62, least, 0}, {mul, greatest, greatest, 0, api.BadOver}, {mul, least, least, 0, api.BadOver}, {mul, 7, 1317624576693539401, greatest, 0}, {mul, 7, 1317624576693539402, 0, api.BadOver},
		{div, 7, 2, 3, 0}, {div, -7, 2, -3, 0}, {div, 7, -2, -3, 0}, {div, -7, -2, 3, 0}, {div, 1, 2, 0, 0}, {div, -1, 2, 0, 0}, {div, 0, 5, 0, 0}, {div, 0, -1, 0, 0}, {div, 5, 0, 0, api.BadZero}, {div, -5, 0, 0, api.BadZero}, {div, 0, 0, 0, api.BadZero}, {div, least, 0, 0, api.BadZero}, {div, least, -1, 0, api.BadOver}, {div, least + 1, -1, greatest, 0}, {div, greatest, -1, -greatest, 0}, {div, least, 1, least, 0}, {div, least, least, 1, 0}, {div, least, -2, 1 << 62, 0}, {div, greatest, least, 0, 0}, {div, least, greatest, -1, 0},
		{mod, 7, 2, 1, 0}, {mod, -7, 2, -1, 0}, {mod, 7, -2, 1, 0}, {mod, -7, -2, -1, 0}, {mod, 6, 3, 0, 0}, {mod, -6, 3, 0, 0}, {mod, 2, 7, 2, 0}, {mod, -2, 7, -2, 0}, {mod, 5, 0, 0, api.BadZero}, {mod, 0, 0, 0, api.BadZero}, {mod, least, 0, 0, api.BadZero}, {mod, least, -1, 0, 0}, {mod, 5, -1, 0, 0}, {mod, least, greatest, -1, 0}, {mod, greatest, least, greatest, 0}, {mod, least, least, 0, 0}, {mod, least, 10, -8, 0}, {mod, 0, 4, 0, 0},
	} {
		runs(t, p(push(1), push(c.low), push(c.top), c.op, emit), rec, []api.Rec{{K: 1, V: c.want}}, int(c.bad))
	}
}

func TestP7_1_LessAndSame(t *testing.T) {
	for _, c := range []struct{ low, top, less, same int64 }{
		{1, 2, 1, 0}, {2, 1, 0, 0}, {2, 2, 0, 1}, {0, 0, 0, 1}, {-1, 0, 1, 0}, {0, -1, 0, 0}, {-1, 1, 1, 0}, {least, greatest, 1, 0}, {greatest, least, 0, 0}, {least, least, 0, 1}, {greatest, greatest, 0, 1}, {least, least + 1, 1, 0}, {greatest, greatest - 1, 0, 0}, {0, 1 << 32, 1, 0}, {1 << 32, 0, 0, 0}, {greatest, -1, 0, 0}, {-2, greatest, 1, 0},
	} {
		leaves(t, p(push(c.low), push(c.top), less), c.less)
		leaves(t, p(push(c.low), push(c.top), same), c.same)
	}
}

// What lies below is left as it is, and what is put lies where what was taken lay.
func TestP7_1_TheStack(t *testing.T) {
	leaves(t, nil)
	leaves(t, p(push(1), push(2), push(3)), 1, 2, 3)
	leaves(t, p(push(1), push(2), push(9), push(4), add), 1, 2, 13)
	leaves(t, p(push(1), push(2), push(9), push(4), sub), 1, 2, 5)
	leaves(t, p(push(1), push(2), push(9), push(4), mul), 1, 2, 36)
	leaves(t, p(push(1), push(2), push(9), push(4), div), 1, 2, 2)
	leaves(t, p(push(1), push(2), push(9), push(4), mod), 1, 2, 1)
	leaves(t, p(push(1), push(2), push(9), push(4), less), 1, 2, 0)
	leaves(t, p(push(1), push(2), push(9), push(4), same), 1, 2, 0)
	leaves(t, p(push(1), push(2), push(9), push(4), drop), 1, 2, 9)
	leaves(t, p(push(1), push(2), push(9), push(4), swap), 1, 2, 4, 9)
	leaves(t, p(push(1), push(2), push(9), swap, swap), 1, 2, 9)
	leaves(t, p(push(1), push(2), push(9), dup), 1, 2, 9, 9)
	leaves(t, p(push(1), dup, push(2), dup), 1, 1, 2, 2)
	leaves(t, p(push(5), push(6), dup, drop, push(7), swap, dup), 5, 7, 6, 6)
	leaves(t, p(push(-1), push(0), push(2), zero(3)), -1, 0)
	leaves(t, p(push(-1), push(0), push(0), zero(4)), -1, 0)
	leaves(t, p(push(-1), push(0), jump(3)), -1, 0)
	gives(t, p(push(1), push(2), push(3), push(4), emit, emit), api.Rec{K: 3, V: 4}, api.Rec{K: 1, V: 2})
}

func TestP7_1_SwapOfEqualAndFar(t *testing.T) {
	for _, a := range []int64{least, -1, 0, 1, greatest} {
		for _, b := range []int64{least, -1, 0, 1, greatest} {
			leaves(t, p(push(a), push(b), swap), b, a)
			leaves(t, p(push(a), push(b), dup), a, b, b)
			leaves(t, p(push(a), push(b), drop), a)
			gives(t, p(push(a), push(b), emit), api.Rec{K: a, V: b})
		}
	}
}

func TestP7_1_Jumps(t *testing.T) {
	a, b := api.Rec{K: 3, V: 4}, api.Rec{K: 4, V: 3}
	gives(t, p(jump(4), val, key, emit, key, val, emit), a)
	gives(t, p(jump(1), val, key, emit), b)
	gives(t, p(jump(4), val, key, emit))
	gives(t, p(jump(1)))
	gives(t, p(key, val, emit, jump(7), val, key, emit), a)
	gives(t, p(jump(5), key, val, emit, jump(9), val, key, emit, jump(1)), b, a)
	for _, n := range numbers() {
		gives(t, p(push(n), zero(5), key, val, emit), only(n != 0, a)...)
		runs(t, p(key, zero(5), val, push(9), emit), api.Rec{K: n, V: 8}, only(n != 0, api.Rec{K: 8, V: 9}), 0)
	}
	gives(t, p(push(0), zero(6), val, key, emit, jump(9), key, val, emit), a)
	gives(t, p(push(1), zero(6), val, key, emit, jump(9), key, val, emit), b)
	gives(t, p(push(0), zero(2)))
	gives(t, p(push(1), zero(0)))
	gives(t, p(push(2), dup, zero(9), dup, key, emit, push(1), sub, jump(1)), api.Rec{K: 2, V: 3}, api.Rec{K: 1, V: 3})
}

func TestP7_1_EightNumbers(t *testing.T) {
	eight := times(8, push(7))
	for _, x := range p(push(1), key, val, dup) {
		fails(t, api.BadStack, append(slices.Clone(eight), x)...)
		gives(t, append(times(7, push(7)), x))
		fails(t, api.BadStack, times(9, push(1))...)
	}
	leaves(t, p(push(1), push(2), push(3), push(4), push(5), push(6), push(7)), 1, 2, 3, 4, 5, 6, 7)
	for _, x := range p(add, sub, mul, div, mod, less, same, swap, drop, emit, jump(9), zero(9), zero(0)) {
		gives(t, append(slices.Clone(eight), x), only(x == emit, api.Rec{K: 7, V: 7})...)
	}
	gives(t, join(p(push(1), push(2), push(3), push(4), push(5), push(6), push(7), push(8)), times(4, emit)), api.Rec{K: 7, V: 8}, api.Rec{K: 5, V: 6}, api.Rec{K: 3, V: 4}, api.Rec{K: 1, V: 2})
	gives(t, join(p(push(1), push(2), push(3), push(4), push(5), push(6), push(7), push(8), swap), times(4, emit)), api.Rec{K: 8, V: 7}, api.Rec{K: 5, V: 6}, api.Rec{K: 3, V: 4}, api.Rec{K: 1, V: 2})
	gives(t, join(p(push(1)), times(7, dup), times(7, add), p(key, emit)), api.Rec{K: 8, V: 3})
	fails(t, api.BadStack, join(p(push(1)), times(8, dup))...)
	gives(t, join(times(8, key), p(drop, val), p(emit)), api.Rec{K: 3, V: 4})
	fails(t, api.BadStack, join(times(8, key), p(drop, val, val))...)
}

// Too few numbers, of each instruction that takes some; with just enough of them it goes on.
func TestP7_1_TooFewNumbers(t *testing.T) {
	for _, x := range p(add, sub, mul, div, mod, less, same, swap, emit) {
		fails(t, api.BadStack, x)
		fails(t, api.BadStack, push(1), x)
		fails(t, api.BadStack, push(1), push(2), drop, x)
		runs(t, p(push(1), push(2), x), rec, only(x == emit, api.Rec{K: 1, V: 2}), 0)
	}
	for _, x := range p(dup, drop, zero(0), zero(1)) {
		fails(t, api.BadStack, x)
		fails(t, api.BadStack, push(1), drop, x)
	}
	for _, x := range p(dup, drop, zero(2)) {
		gives(t, p(push(1), x))
	}
	for _, x := range p(push(1), key, val, jump(1)) {
		gives(t, p(x))
	}
	fails(t, api.BadStack, push(1), push(2), emit, drop)
	fails(t, api.BadStack, push(1), push(2), add, emit)
}

func TestP7_1_EightRecords(t *testing.T) {
	one := p(key, val, emit)
	for n := range 9 {
		gives(t, times(n, one...), slices.Repeat([]api.Rec{rec}, n)...)
	}
	for n := 9; n <= 21; n++ {
		fails(t, api.BadEmit, times(n, one...)...)
	}
	var l []api.Ins
	var want []api.Rec
	for i := range int64(8) {
		l = append(l, push(-i), push(i), emit)
		want = append(want, api.Rec{K: -i, V: i})
	}
	gives(t, l, want...)
	gives(t, append(slices.Clone(l), key, val), want...)
	fails(t, api.BadEmit, append(l, key, val, emit)...)
	fails(t, api.BadEmit, key, val, emit, jump(0))
}

// spends so many steps, from 4 on, and leaves the stack empty; what stands behind begins at its length.
func spends(steps int) []api.Ins {
	l := p(push(int64(steps-4)/5), dup, zero(6), push(1), sub, jump(1), drop)
	for range (steps - 4) % 5 {
		l = append(l, jump(int64(len(l)+1)))
	}
	return l
}

// behind puts a program behind one that spends so many steps; its jumps go as far ahead or back as they say.
func behind(steps int, l ...api.Ins) []api.Ins {
	all := spends(steps)
	start := int64(len(all))
	for _, x := range l {
		if x.Op == api.OpJump || x.Op == api.OpZero {
			x.N += start
		}
		all = append(all, x)
	}
	return all
}

// Of 256 steps the last one is done, whatever it is; one more is not, be it the simplest one.
func TestP7_1_TheLastStep(t *testing.T) {
	for steps := 4; steps <= 256; steps++ {
		gives(t, spends(steps))
	}
	for steps := 257; steps <= 300; steps++ {
		fails(t, api.BadFuel, spends(steps)...)
	}
	for _, x := range p(push(1), key, val, jump(1)) {
		gives(t, behind(255, x))
		fails(t, api.BadFuel, behind(256, x)...)
	}
	for _, x := range p(dup, drop, zero(1)) {
		gives(t, behind(254, key, x))
		fails(t, api.BadFuel, behind(255, key, x)...)
	}
	for _, x := range p(add, sub, mul, div, mod, less, same, swap) {
		gives(t, behind(253, key, val, x))
		fails(t, api.BadFuel, behind(254, key, val, x)...)
	}
	gives(t, behind(253, key, val, emit), rec)
	fails(t, api.BadFuel, behind(254, key, val, emit)...)
	fails(t, api.BadFuel, behind(253, key, val, emit, key)...)
	gives(t, behind(232, times(8, key, val, emit)...), slices.Repeat([]api.Rec{rec}, 8)...)
	fails(t, api.BadFuel, behind(233, times(8, key, val, emit)...)...)
}

// With the last step it goes to the end, over what stands between, or to what would have been one step more.
func TestP7_1_TheLastStepJumps(t *testing.T) {
	gives(t, behind(255, jump(4), key, val, emit))
	gives(t, behind(252, key, val, emit, jump(5), key), rec)
	gives(t, behind(254, push(0), zero(4), key, val))
	gives(t, behind(254, push(5), zero(2)))
	fails(t, api.BadFuel, behind(255, jump(3), key, val, emit)...)
	fails(t, api.BadFuel, behind(255, jump(0))...)
	fails(t, api.BadFuel, behind(254, push(0), zero(3), key, val)...)
	fails(t, api.BadFuel, behind(254, push(5), zero(4), key, val)...)
}

// Around without an end: 256 steps are done, and the next one has none.
func TestP7_1_WithoutAnEnd(t *testing.T) {
	fails(t, api.BadFuel, jump(0))
	fails(t, api.BadFuel, push(0), zero(0))
	fails(t, api.BadFuel, key, drop, jump(0))
	fails(t, api.BadFuel, jump(1), jump(0))
	fails(t, api.BadFuel, key, val, emit, jump(3))
	fails(t, api.BadFuel, append(times(63, jump(1)), jump(0))...)
	fails(t, api.BadFuel, push(0), push(1), add, dup, drop, jump(1))
	fails(t, api.BadFuel, append(times(8, key, val, emit), jump(24))...)
}

// What fails with the last step is told; with one more it is not come to, whatever it asks for.
func TestP7_1_FuelGoesFirst(t *testing.T) {
	for _, c := range []struct {
		bad int
		l   []api.Ins
	}{
		{api.BadStack, p(drop)}, {api.BadStack, p(key, add)}, {api.BadStack, p(emit)}, {api.BadStack, p(push(0), div)}, {api.BadStack, times(9, key)}, {api.BadStack, append(times(8, val), dup)},
		{api.BadOver, p(push(greatest), push(1), add)}, {api.BadOver, p(push(least), push(1), sub)}, {api.BadOver, p(push(least), push(-1), mul)}, {api.BadOver, p(push(least), push(-1), div)},
		{api.BadZero, p(key, push(0), div)}, {api.BadZero, p(key, push(0), mod)}, {api.BadEmit, times(9, key, val, emit)},
	} {
		last := 256 - len(c.l)
		fails(t, c.bad, behind(last-1, c.l...)...)
		fails(t, c.bad, behind(last, c.l...)...)
		fails(t, api.BadFuel, behind(last+1, c.l...)...)
		fails(t, api.BadFuel, behind(last+2, c.l...)...)
	}
}

func TestP7_1_StackGoesAheadOfZeroAndTheOthers(t *testing.T) {
	fails(t, api.BadStack, push(0), div)
	fails(t, api.BadStack, push(0), mod)
	fails(t, api.BadStack, div)
	fails(t, api.BadStack, mod)
	fails(t, api.BadStack, push(greatest), add)
	fails(t, api.BadStack, push(least), sub)
	fails(t, api.BadStack, push(least), mul)
	fails(t, api.BadStack, append(times(8, key, val, emit), emit)...)
	fails(t, api.BadStack, append(times(8, key, val, emit), key, emit)...)
	fails(t, api.BadEmit, append(times(8, key, val, emit), key, val, emit)...)
	fails(t, api.BadZero, push(least), push(0), div)
	fails(t, api.BadZero, push(least), push(0), mod)
}

// The first error that comes ends the run: what would come behind it is not told.
func TestP7_1_TheFirstErrorEnds(t *testing.T) {
	wrong := []struct {
		bad int
		l   []api.Ins
	}{{api.BadStack, p(drop)}, {api.BadOver, p(push(greatest), push(1), add)}, {api.BadZero, p(push(1), push(0), div)}, {api.BadEmit, times(9, key, val, emit)}}
	for _, a := range wrong {
		for _, b := range wrong {
			fails(t, a.bad, join(a.l, b.l)...)
			fails(t, a.bad, join(p(key, val, emit, jump(4)), a.l, b.l)...)
		}
		fails(t, a.bad, append(slices.Clone(a.l), jump(0))...)
	}
}

// The record that tells an error has the record's key, whatever it is, and nothing comes beside it, though some were emitted.
func TestP7_1_TheRecordOfAnError(t *testing.T) {
	for _, c := range []struct {
		bad  int
		v    int64
		tail []api.Ins
	}{
		{1, -9223372036854775807, p(drop)}, {2, -9223372036854775806, p(push(least), push(-1), mul)}, {3, -9223372036854775805, p(push(1), push(0), mod)}, {4, -9223372036854775804, nil}, {5, -9223372036854775803, times(9, key, val, emit)},
	} {
		if c.bad == api.BadFuel {
			c.tail = p(jump(6))
		}
		for _, r := range []api.Rec{{}, {K: 3, V: 4}, {K: -1, V: 1}, {K: least, V: greatest}, {K: greatest, V: least}} {
			l := join(times(2, val, key, emit), c.tail)
			got, bad := prog.Run(l, r)
			if bad != c.bad || !slices.Equal(got, []api.Rec{{K: r.K, V: c.v}}) {
				t.Errorf("%v of %v: %v, %d", l, r, got, bad)
			}
		}
	}
	if api.BadStack != 1 || api.BadOver != 2 || api.BadZero != 3 || api.BadFuel != 4 || api.BadEmit != 5 {
		t.Error("the errors' numbers")
	}
}

// slow goes by the chapter's words, with a stack that is made anew at each step. It tells how many steps it did, too.
func slow(l []api.Ins, r api.Rec) ([]api.Rec, int, int) {
	var stack []int64
	var out []api.Rec
	at, steps := 0, 0
	for at < len(l) {
		if steps == 256 {
			return told(r, api.BadFuel), api.BadFuel, steps
		}
		steps++
		x := l[at]
		at++
		takes, puts := 2, 1
		switch x.Op {
		case api.OpPush, api.OpKey, api.OpVal:
			takes = 0
		case api.OpDup:
			takes, puts = 1, 2
		case api.OpSwap:
			puts = 2
		case api.OpDrop, api.OpZero:
			takes, puts = 1, 0
		case api.OpJump:
			takes, puts = 0, 0
		case api.OpEmit:
			puts = 0
		}
		if len(stack) < takes || len(stack)-takes+puts > 8 {
			return told(r, api.BadStack), api.BadStack, steps
		}
		top := slices.Clone(stack[len(stack)-takes:])
		stack = slices.Clone(stack[:len(stack)-takes])
		switch x.Op {
		case api.OpPush:
			stack = append(stack, x.N)
		case api.OpKey:
			stack = append(stack, r.K)
		case api.OpVal:
			stack = append(stack, r.V)
		case api.OpDup:
			stack = append(stack, top[0], top[0])
		case api.OpSwap:
			stack = append(stack, top[1], top[0])
		case api.OpJump:
			at = int(x.N)
		case api.OpZero:
			if top[0] == 0 {
				at = int(x.N)
			}
		case api.OpEmit:
			if len(out) == 8 {
				return told(r, api.BadEmit), api.BadEmit, steps
			}
			out = append(out, api.Rec{K: top[0], V: top[1]})
		case api.OpDrop:
		default:
			n, bad := slowTwo(x.Op, top[0], top[1])
			if bad != 0 {
				return told(r, bad), bad, steps
			}
			stack = append(stack, n)
		}
	}
	return out, 0, steps
}

// holds asks that a run is as the slow one, and tells its error and its steps.
func holds(t *testing.T, l []api.Ins, r api.Rec) ([]api.Rec, int, int) {
	t.Helper()
	want, bad, steps := slow(l, r)
	if got, e := prog.Run(l, r); !slices.Equal(got, want) || e != bad {
		t.Fatalf("Run(%v, %v) = %v, %d, not %v, %d", l, r, got, e, want, bad)
	}
	return want, bad, steps
}

// All programs of up to three instructions behind some numbers that lie on the stack.
func TestP7_1_AllShortPrograms(t *testing.T) {
	some := append(plain(), push(0), push(-2), push(least), jump(0), jump(2), jump(3), zero(0), zero(2), zero(3))
	met := [6]int{}
	var grow func(l []api.Ins, left int)
	grow = func(l []api.Ins, left int) {
		if prog.Right(l) {
			_, bad, _ := holds(t, l, rec)
			met[bad]++
		}
		if left == 0 {
			return
		}
		for _, x := range some {
			grow(append(slices.Clone(l), x), left-1)
		}
	}
	for _, ahead := range [][]api.Ins{nil, p(push(-1)), p(push(5), push(0)), p(push(least), push(-1)), times(7, val), times(8, val)} {
		grow(ahead, 3)
	}
	if met[0] == 0 || met[api.BadStack] == 0 || met[api.BadOver] == 0 || met[api.BadZero] == 0 || met[api.BadFuel] == 0 {
		t.Error(met)
	}
}

// mixed gives programs that are long, go around, and mostly have what they take.
func mixed(n int, f func(l []api.Ins, r api.Rec)) {
	seed := uint64(7)
	next := func(below int) int {
		seed = seed*6364136223846793005 + 1442695040888963407
		return int(seed >> 33 % uint64(below))
	}
	pushes := []int64{0, 1, -1, 2, 3, -7, 1 << 32, least, greatest}
	for range n {
		l := make([]api.Ins, 1+next(64))
		for i := range l {
			switch op := 1 + next(23); op {
			case api.OpPush, 17:
				l[i] = push(pushes[next(len(pushes))])
			case api.OpJump, api.OpZero:
				l[i] = api.Ins{Op: op, N: int64(next(len(l) + 1))}
			case 18:
				l[i] = key
			case 19:
				l[i] = val
			case 20:
				l[i] = dup
			case 21:
				l[i] = push(int64(next(9)))
			case 22, 23:
				copy(l[max(i-2, 0):], p(key, val, emit))
			default:
				l[i] = api.Ins{Op: op}
			}
		}
		f(l, api.Rec{K: pushes[next(len(pushes))], V: int64(next(20)) - 5})
	}
}

func TestP7_1_LongPrograms(t *testing.T) {
	met := [6]int{}
	mixed(100000, func(l []api.Ins, r api.Rec) {
		if !prog.Right(l) {
			t.Fatalf("not right: %v", l)
		}
		_, bad, _ := holds(t, l, r)
		met[bad]++
	})
	for bad, n := range met {
		if n == 0 {
			t.Errorf("no run of error %d", bad)
		}
	}
}

// wholes has a program with spare room behind it, and the whole of that room.
func wholes(l []api.Ins) ([]api.Ins, []api.Ins) {
	whole := slices.Concat(l, times(20, emit))
	return whole[:len(l)], whole
}

// Neither the program nor its spare room changes, and what stands in the spare room is not run, nor asked whether it is right.
func TestP7_1_NothingHandedInChanges(t *testing.T) {
	mixed(2000, func(list []api.Ins, r api.Rec) {
		l, room := wholes(list)
		room[len(l)] = api.Ins{Op: 99, N: 99}
		was := slices.Clone(room)
		if !prog.Right(l) {
			t.Fatalf("not right: %v", l)
		}
		holds(t, l, r)
		l[0].N, was[0].N = -5, -5
		prog.Right(l)
		prog.Run(l, r)
		if !slices.Equal(room, was) {
			t.Fatalf("%v became %v", was, room)
		}
	})
	for _, list := range [][]api.Ins{nil, p(key, val, emit), p(key), p(jump(1)), times(64, jump(64))} {
		l, _ := wholes(list)
		holds(t, l, rec)
	}
}

// Answers share nothing with one another, and a run knows nothing of another one.
func TestP7_1_AnswersAreTheirOwn(t *testing.T) {
	for _, l := range [][]api.Ins{p(key, val, emit), times(8, key, val, emit), p(drop), p(jump(0))} {
		want, _, _ := slow(l, rec)
		one, _ := prog.Run(l, rec)
		two, _ := prog.Run(l, rec)
		one = one[:cap(one)]
		for i := range one {
			one[i] = api.Rec{K: 77, V: 78}
		}
		if !slices.Equal(two, want) {
			t.Errorf("%v: %v", l, two)
		}
		runs(t, p(key, val, add, val, emit), rec, []api.Rec{{K: 7, V: 4}}, 0)
		holds(t, l, rec)
	}
}

// ends asks that a run has at most 8 records, and of an error one.
func ends(t *testing.T, l []api.Ins, r api.Rec) (int, int, int) {
	t.Helper()
	want, bad, steps := holds(t, l, r)
	got, e := prog.Run(l, r)
	if len(got) > 8 || e != 0 && len(got) != 1 || e < 0 || e > 5 || len(got) != len(want) {
		t.Fatalf("%v of %v: %v, %d", l, r, got, e)
	}
	return len(got), bad, steps
}

func TestP7_2_AtMostEightRecords(t *testing.T) {
	for n := range 22 {
		many, bad, _ := ends(t, times(n, key, val, emit), rec)
		if n <= 8 && (many != n || bad != 0) || n > 8 && (many != 1 || bad != api.BadEmit) {
			t.Errorf("%d records: %d, %d", n, many, bad)
		}
	}
	for k := range int64(20) {
		l := p(push(k), dup, zero(9), key, val, emit, push(1), sub, jump(1))
		many, bad, _ := ends(t, l, rec)
		if k <= 8 && (many != int(k) || bad != 0) || k > 8 && (many != 1 || bad != api.BadEmit) {
			t.Errorf("around %d times: %d, %d", k, many, bad)
		}
	}
	if many, bad, _ := ends(t, p(key, val, emit, jump(0)), rec); many != 1 || bad != api.BadEmit {
		t.Errorf("without an end: %d, %d", many, bad)
	}
}

// Each run ends: be its loops as they are, no more than 256 steps are done.
func TestP7_2_EachRunEnds(t *testing.T) {
	for steps := 4; steps <= 330; steps++ {
		many, bad, did := ends(t, spends(steps), rec)
		if steps <= 256 && (many != 0 || bad != 0 || did != steps) || steps > 256 && (many != 1 || bad != api.BadFuel || did != 256) {
			t.Errorf("%d steps: %d, %d, %d", steps, many, bad, did)
		}
	}
	around, most := 0, 0
	mixed(20000, func(l []api.Ins, r api.Rec) {
		many, bad, steps := ends(t, l, r)
		if bad == api.BadFuel && steps == 256 {
			around++
		}
		most = max(most, many)
	})
	if around == 0 || most < 5 {
		t.Errorf("%d went around without an end, %d records at most", around, most)
	}
}

func TestP7_2_WhateverIsHandedIn(t *testing.T) {
	for _, n := range []int64{least, -1, 0, 1, 3, 64, 65, greatest} {
		for op := -2; op <= 18; op++ {
			for _, size := range []int{1, 2, 3, 63, 64, 65, 300} {
				l := times(size, api.Ins{Op: op, N: n})
				if got, bad := prog.Run(l, rec); len(got) > 8 || bad != 0 && len(got) != 1 || !prog.Right(l) && (len(got) != 0 || bad != 0) {
					t.Errorf("%d times %d %d: %v, %d", size, op, n, got, bad)
				}
			}
		}
	}
}

func TestP7_2_TheExamples(t *testing.T) {
	gives(t, p(key, val, push(1), add, emit), api.Rec{K: 3, V: 5})
}
