package word_test

import (
	"math"
	"math/big"
	"slices"
	"testing"

	"logjam/api"
	"logjam/internal/draws"
	"logjam/word"
)

const (
	least    = -1 << 31
	greatest = 1<<31 - 1
)

// words are those at the edges, all powers of 2 with those beside them, roots of the greatest products, and drawn ones.
func words() []int {
	l := []int{0, 3, -3, 5, -5, 7, -7, 10, 100, -100, 46340, 46341, -46340, -46341, 0x55555555, -0x55555556, 0x12345678, -0x12345679}
	for k := range 31 {
		l = append(l, 1<<k, 1<<k-1, 1<<k+1, -1<<k, -1<<k-1, -1<<k+1)
	}
	l = append(l, least, least+1, least+2, greatest, greatest-1, greatest-2)
	d := draws.Row(3)
	for k := range 60 {
		l = append(l, int(int32(d.Next()))>>(k%30))
	}
	slices.Sort(l)
	return slices.Compact(l)
}

// beside are numbers that are no words.
func beside() []int {
	l := []int{
		least - 1, least - 2, greatest + 1, greatest + 2, 1<<32 - 1, 1 << 32, 1<<32 + 1, 1<<32 + 5, -1<<32 - 1, -1 << 32, -1<<32 + 1, -1<<32 + 7,
		1<<33 - 1, 3<<31 - 1, 3 << 31, -3 << 31, -3<<31 - 1, 1 << 62, -1 << 62, math.MaxInt, math.MaxInt - 1, math.MinInt, math.MinInt + 1,
		math.MaxInt - 1<<31, math.MinInt + 1<<31, math.MinInt + 1<<31 - 1,
	}
	for k := 32; k < 63; k += 5 {
		l = append(l, 1<<k+3, -1<<k-3)
	}
	d := draws.Row(4)
	for k := range 40 {
		n := int(d.Next()) >> (k % 30)
		if n < least || n > greatest {
			l = append(l, n)
		}
	}
	return l
}

// operations are those that Do has.
var operations = []int{
	api.OpAdd, api.OpSub, api.OpMul, api.OpDiv, api.OpMod, api.OpNeg, api.OpLt, api.OpEq,
	api.OpAnd, api.OpOr, api.OpXor, api.OpShl, api.OpShr,
}

// whole is a number of any size.
func whole(n int) *big.Int { return big.NewInt(int64(n)) }

// two is 2^n.
func two(n uint) *big.Int { return new(big.Int).Lsh(big.NewInt(1), n) }

// lowest is the word that differs from n by a multiple of 2^32.
func lowest(n *big.Int) *big.Int {
	w := new(big.Int).Mod(n, two(32))
	if w.Cmp(two(31)) >= 0 {
		w.Sub(w, two(32))
	}
	return w
}

// judged is a number, or that it is too great.
func judged(n *big.Int) (int, int) {
	if n.Cmp(lowest(n)) != 0 {
		return 0, api.Over
	}
	return int(n.Int64()), 0
}

// compared is 1, if what is compared stands as asked.
func compared(yes bool) (int, int) {
	if yes {
		return 1, 0
	}
	return 0, 0
}

// divided is what an operation makes of a division, rounded towards 0.
func divided(op int, x, y *big.Int) (int, int) {
	if y.Sign() == 0 {
		return 0, api.DivZero
	}
	q, r := new(big.Int).QuoRem(x, y, new(big.Int))
	if op == api.OpDiv {
		return judged(q)
	}
	return judged(r)
}

// done is what an operation makes of two words, told by numbers that have room for everything.
func done(op, a, b int) (int, int) {
	x, y, z := lowest(whole(a)), lowest(whole(b)), new(big.Int)
	by := uint(new(big.Int).Mod(y, whole(32)).Uint64())
	switch op {
	case api.OpAdd:
		return judged(z.Add(x, y))
	case api.OpSub:
		return judged(z.Sub(x, y))
	case api.OpMul:
		return judged(z.Mul(x, y))
	case api.OpDiv, api.OpMod:
		return divided(op, x, y)
	case api.OpNeg:
		return judged(z.Neg(x))
	case api.OpLt:
		return compared(x.Cmp(y) < 0)
	case api.OpEq:
		return compared(x.Cmp(y) == 0)
	case api.OpAnd:
		return judged(z.And(x, y))
	case api.OpOr:
		return judged(z.Or(x, y))
	case api.OpXor:
		return judged(z.Xor(x, y))
	case api.OpShl:
		return judged(lowest(z.Lsh(x, by)))
	case api.OpShr:
		return judged(z.Rsh(x, by))
	}
	return 0, 0
}

// row is an operation's words, the word and the fault that it makes.
type row struct{ a, b, word, fault int }

// holds tells whether an operation makes what each row says.
func holds(t *testing.T, op int, rows []row) {
	t.Helper()
	for _, x := range rows {
		if w, f := word.Do(op, x.a, x.b); w != x.word || f != x.fault {
			t.Errorf("Do(%d, %d, %d): %d, %d, not %d, %d", op, x.a, x.b, w, f, x.word, x.fault)
		}
	}
}

// P3.1

func TestFits(t *testing.T) {
	for _, n := range words() {
		if !word.Fits(n) {
			t.Errorf("%d is no word", n)
		}
	}
	for _, n := range beside() {
		if word.Fits(n) {
			t.Errorf("%d is a word", n)
		}
	}
}

func TestFitsAtTheEdges(t *testing.T) {
	for _, x := range []struct {
		n    int
		want bool
	}{
		{0, true}, {1, true}, {-1, true},
		{-1<<31 - 2, false}, {-1<<31 - 1, false}, {-1 << 31, true}, {-1<<31 + 1, true},
		{1<<31 - 2, true}, {1<<31 - 1, true}, {1 << 31, false}, {1<<31 + 1, false},
		{1<<32 - 1, false}, {1 << 32, false}, {1<<32 + 1, false}, {-1 << 32, false}, {-1<<32 + 1, false},
		{math.MinInt, false}, {math.MinInt + 1, false}, {math.MaxInt, false}, {math.MaxInt - 1, false},
	} {
		if got := word.Fits(x.n); got != x.want {
			t.Errorf("Fits(%d): %v", x.n, got)
		}
	}
}

func TestLowOfAWordIsTheWord(t *testing.T) {
	for _, n := range words() {
		if got := word.Low(n); got != n {
			t.Errorf("Low(%d): %d", n, got)
		}
	}
}

func TestLowIsTheWordOfTheLowestBits(t *testing.T) {
	for _, n := range beside() {
		if got, want := word.Low(n), int(lowest(whole(n)).Int64()); got != want {
			t.Errorf("Low(%d): %d, not %d", n, got, want)
		}
	}
}

func TestLowAtTheEdges(t *testing.T) {
	for _, x := range []struct{ n, want int }{
		{0, 0}, {-1, -1}, {1<<31 - 1, greatest}, {1 << 31, least}, {1<<31 + 1, least + 1},
		{-1 << 31, least}, {-1<<31 - 1, greatest}, {-1<<31 - 2, greatest - 1},
		{1<<32 - 1, -1}, {1 << 32, 0}, {1<<32 + 1, 1}, {-1 << 32, 0}, {-1<<32 - 1, -1}, {-1<<32 + 1, 1},
		{1<<33 - 1, -1}, {3 << 31, least}, {3<<31 - 1, greatest}, {1 << 62, 0}, {-1 << 62, 0},
		{math.MaxInt, -1}, {math.MaxInt - 1, -2}, {math.MinInt, 0}, {math.MinInt + 1, 1},
		{math.MaxInt - 1<<31, greatest}, {math.MinInt + 1<<31, least}, {0x123456789abcdef, -0x76543211},
	} {
		if got := word.Low(x.n); got != x.want {
			t.Errorf("Low(%d): %d, not %d", x.n, got, x.want)
		}
	}
}

// P3.2

func TestDoOfAllWords(t *testing.T) {
	l := words()
	for _, op := range operations {
		for _, a := range l {
			for _, b := range l {
				w, f := word.Do(op, a, b)
				if ww, wf := done(op, a, b); w != ww || f != wf {
					t.Fatalf("Do(%d, %d, %d): %d, %d, not %d, %d", op, a, b, w, f, ww, wf)
				}
			}
		}
	}
}

// All but the lowest 32 bits of what is handed in are nothing to any operation.
func TestDoTakesTheLowestBits(t *testing.T) {
	few := []int{0, 1, -1, 2, -7, 31, 32, 33, 1 << 16, least, least + 1, greatest}
	for _, op := range operations {
		for _, n := range beside() {
			for _, m := range append(beside(), few...) {
				for _, x := range [][2]int{{n, m}, {m, n}} {
					w, f := word.Do(op, x[0], x[1])
					if ww, wf := done(op, x[0], x[1]); w != ww || f != wf {
						t.Fatalf("Do(%d, %d, %d): %d, %d, not %d, %d", op, x[0], x[1], w, f, ww, wf)
					}
				}
			}
		}
	}
}

func TestAdd(t *testing.T) {
	holds(t, api.OpAdd, []row{
		{0, 0, 0, 0}, {2, 3, 5, 0}, {-2, 3, 1, 0}, {2, -3, -1, 0}, {-2, -3, -5, 0},
		{greatest, 0, greatest, 0}, {greatest - 1, 1, greatest, 0}, {greatest, 1, 0, api.Over}, {1, greatest, 0, api.Over},
		{greatest, greatest, 0, api.Over}, {1 << 30, 1<<30 - 1, greatest, 0}, {1 << 30, 1 << 30, 0, api.Over},
		{least, 0, least, 0}, {least + 1, -1, least, 0}, {least, -1, 0, api.Over}, {-1, least, 0, api.Over},
		{least, least, 0, api.Over}, {-1 << 30, -1 << 30, least, 0}, {-1 << 30, -1<<30 - 1, 0, api.Over},
		{least, greatest, -1, 0}, {greatest, least, -1, 0},
		{1 << 31, 0, least, 0}, {1<<32 + 2, 3 - 1<<32, 5, 0}, {math.MaxInt, math.MinInt, -1, 0}, {1<<32 + greatest, 1, 0, api.Over},
	})
}

func TestSub(t *testing.T) {
	holds(t, api.OpSub, []row{
		{0, 0, 0, 0}, {2, 3, -1, 0}, {3, 2, 1, 0}, {-2, 3, -5, 0}, {2, -3, 5, 0}, {-2, -3, 1, 0},
		{greatest, 0, greatest, 0}, {greatest - 1, -1, greatest, 0}, {greatest, -1, 0, api.Over}, {0, least, 0, api.Over},
		{-1, least, greatest, 0}, {greatest, least, 0, api.Over}, {greatest, greatest, 0, 0},
		{least, 0, least, 0}, {least + 1, 1, least, 0}, {least, 1, 0, api.Over}, {least, greatest, 0, api.Over},
		{-1, greatest, least, 0}, {-2, greatest, 0, api.Over}, {0, greatest, least + 1, 0}, {least, least, 0, 0},
		{1 << 31, least, 0, 0}, {1 << 32, 1, -1, 0}, {math.MinInt, math.MaxInt, 1, 0},
	})
}

func TestMul(t *testing.T) {
	holds(t, api.OpMul, []row{
		{0, 0, 0, 0}, {6, 7, 42, 0}, {-6, 7, -42, 0}, {6, -7, -42, 0}, {-6, -7, 42, 0},
		{0, least, 0, 0}, {greatest, 0, 0, 0}, {1, least, least, 0}, {greatest, 1, greatest, 0},
		{greatest, -1, least + 1, 0}, {least, -1, 0, api.Over}, {-1, least, 0, api.Over}, {least + 1, -1, greatest, 0},
		{1 << 15, 1 << 16, 0, api.Over}, {-1 << 15, 1 << 16, least, 0}, {-1 << 15, -1 << 16, 0, api.Over}, {1 << 16, -1 << 15, least, 0},
		{46340, 46340, 2147395600, 0}, {46341, 46341, 0, api.Over}, {46341, 46340, 2147441940, 0}, {-46341, -46341, 0, api.Over},
		{1 << 30, 2, 0, api.Over}, {1 << 30, -2, least, 0}, {-1 << 30, 2, least, 0}, {-1<<30 - 1, 2, 0, api.Over}, {1<<30 - 1, 2, greatest - 1, 0},
		{1 << 16, 1 << 16, 0, api.Over}, {65537, 65535, 0, api.Over}, {least, least, 0, api.Over}, {greatest, greatest, 0, api.Over}, {least, greatest, 0, api.Over},
		{1<<32 + 6, 7, 42, 0}, {math.MaxInt, math.MaxInt, 1, 0}, {math.MinInt, math.MaxInt, 0, 0},
	})
}

func TestDiv(t *testing.T) {
	holds(t, api.OpDiv, []row{
		{6, 3, 2, 0}, {7, 2, 3, 0}, {-7, 2, -3, 0}, {7, -2, -3, 0}, {-7, -2, 3, 0}, {1, 2, 0, 0}, {-1, 2, 0, 0}, {1, -2, 0, 0}, {-1, -2, 0, 0},
		{0, 5, 0, 0}, {0, -5, 0, 0}, {0, 0, 0, api.DivZero}, {1, 0, 0, api.DivZero}, {-1, 0, 0, api.DivZero},
		{greatest, 0, 0, api.DivZero}, {least, 0, 0, api.DivZero},
		{least, -1, 0, api.Over}, {least, 1, least, 0}, {least + 1, -1, greatest, 0}, {greatest, -1, least + 1, 0}, {greatest, 1, greatest, 0},
		{least, -2, 1 << 30, 0}, {least, 2, -1 << 30, 0}, {least, least, 1, 0}, {least, greatest, -1, 0}, {greatest, least, 0, 0}, {least + 1, least, 0, 0},
		{5, 1 << 32, 0, api.DivZero}, {5, math.MinInt, 0, api.DivZero}, {1 << 31, math.MaxInt, 0, api.Over}, {1<<32 + 9, 1<<32 - 2, -4, 0},
	})
}

func TestMod(t *testing.T) {
	holds(t, api.OpMod, []row{
		{6, 3, 0, 0}, {7, 3, 1, 0}, {-7, 3, -1, 0}, {7, -3, 1, 0}, {-7, -3, -1, 0}, {8, 3, 2, 0}, {-8, 3, -2, 0}, {-6, 3, 0, 0},
		{1, 2, 1, 0}, {-1, 2, -1, 0}, {1, -2, 1, 0}, {-1, -2, -1, 0},
		{0, 5, 0, 0}, {0, -5, 0, 0}, {0, 0, 0, api.DivZero}, {1, 0, 0, api.DivZero}, {-1, 0, 0, api.DivZero},
		{greatest, 0, 0, api.DivZero}, {least, 0, 0, api.DivZero},
		{least, -1, 0, 0}, {least, 1, 0, 0}, {greatest, -1, 0, 0}, {least + 1, -1, 0, 0},
		{least, greatest, -1, 0}, {greatest, least, greatest, 0}, {least, least, 0, 0}, {least, 3, -2, 0}, {least, -3, -2, 0}, {least + 1, least, least + 1, 0},
		{5, 1 << 32, 0, api.DivZero}, {5, math.MinInt, 0, api.DivZero}, {1 << 31, math.MaxInt, 0, 0}, {1<<32 - 7, 3, -1, 0},
	})
}

func TestNeg(t *testing.T) {
	for _, b := range []int{0, 1, -1, 9, least, greatest, math.MinInt, math.MaxInt} {
		holds(t, api.OpNeg, []row{
			{0, b, 0, 0}, {1, b, -1, 0}, {-1, b, 1, 0}, {77, b, -77, 0}, {-77, b, 77, 0},
			{greatest, b, least + 1, 0}, {least + 1, b, greatest, 0}, {least, b, 0, api.Over},
			{1 << 31, b, 0, api.Over}, {1<<31 + 1, b, greatest, 0}, {1 << 32, b, 0, 0}, {math.MaxInt, b, 1, 0}, {math.MinInt, b, 0, 0}, {math.MinInt + 1<<31, b, 0, api.Over},
		})
	}
}

func TestLt(t *testing.T) {
	holds(t, api.OpLt, []row{
		{0, 0, 0, 0}, {0, 1, 1, 0}, {1, 0, 0, 0}, {-1, 0, 1, 0}, {0, -1, 0, 0}, {-2, -1, 1, 0}, {-1, -2, 0, 0}, {-1, -1, 0, 0},
		{least, greatest, 1, 0}, {greatest, least, 0, 0}, {least, least, 0, 0}, {least, least + 1, 1, 0}, {greatest - 1, greatest, 1, 0}, {greatest, greatest, 0, 0},
		{1 << 31, 0, 1, 0}, {0, 1 << 31, 0, 0}, {1 << 32, 1, 1, 0}, {1, 1 << 32, 0, 0}, {math.MaxInt, 0, 1, 0}, {math.MinInt, 0, 0, 0}, {0, math.MinInt + 1, 1, 0},
	})
}

func TestEq(t *testing.T) {
	holds(t, api.OpEq, []row{
		{0, 0, 1, 0}, {0, 1, 0, 0}, {1, 0, 0, 0}, {5, 5, 1, 0}, {5, -5, 0, 0}, {-5, -5, 1, 0}, {-1, 1, 0, 0}, {1, 1 << 16, 0, 0},
		{least, least, 1, 0}, {greatest, greatest, 1, 0}, {least, greatest, 0, 0}, {0, least, 0, 0}, {greatest, -1, 0, 0},
		{1 << 32, 0, 1, 0}, {1 << 31, least, 1, 0}, {math.MaxInt, -1, 1, 0}, {math.MinInt, 0, 1, 0}, {math.MinInt, math.MaxInt, 0, 0}, {1<<32 + 5, 5 - 1<<40, 1, 0},
	})
}

func TestAndOrXor(t *testing.T) {
	for _, x := range []struct{ a, b, and, or, xor int }{
		{0, 0, 0, 0, 0}, {12, 10, 8, 14, 6}, {-1, 10, 10, -1, -11}, {-4, 6, 4, -2, -6}, {-1, -1, -1, -1, 0}, {1, 1, 1, 1, 0},
		{least, greatest, 0, -1, -1}, {least, -1, least, -1, greatest}, {greatest, -1, greatest, -1, least}, {least, least, least, least, 0},
		{0x55555555, 0x33333333, 0x11111111, 0x77777777, 0x66666666},
		{1 << 32, 5, 0, 5, 5}, {1 << 31, 1, 0, least + 1, least + 1}, {math.MaxInt, 7, 7, -1, -8}, {math.MinInt, 3, 0, 3, 3}, {0xf0f0f0f0f, 0xff, 0x0f, 0xf0f0fff, 0xf0f0ff0},
	} {
		holds(t, api.OpAnd, []row{{x.a, x.b, x.and, 0}, {x.b, x.a, x.and, 0}})
		holds(t, api.OpOr, []row{{x.a, x.b, x.or, 0}, {x.b, x.a, x.or, 0}})
		holds(t, api.OpXor, []row{{x.a, x.b, x.xor, 0}, {x.b, x.a, x.xor, 0}})
	}
}

func TestShl(t *testing.T) {
	holds(t, api.OpShl, []row{
		{0, 0, 0, 0}, {0, 31, 0, 0}, {1, 0, 1, 0}, {1, 1, 2, 0}, {3, 4, 48, 0}, {-3, 4, -48, 0}, {1, 30, 1 << 30, 0}, {1, 31, least, 0}, {-1, 31, least, 0},
		{2, 31, 0, 0}, {3, 31, least, 0}, {3, 30, -1 << 30, 0}, {greatest, 1, -2, 0}, {least, 1, 0, 0}, {least, 0, least, 0}, {least + 1, 1, 2, 0}, {0x12345678, 8, 0x34567800, 0}, {0x12345678, 4, 0x23456780, 0}, {0x12345678, 12, 0x45678000, 0}, {0x12345678, 16, 0x56780000, 0},
		{5, 32, 5, 0}, {5, 33, 10, 0}, {5, 63, least, 0}, {5, 64, 5, 0}, {5, 65, 10, 0}, {5, 96, 5, 0},
		{1, -1, least, 0}, {5, -31, 10, 0}, {5, -32, 5, 0}, {5, -33, least, 0}, {5, -30, 20, 0}, {5, -64, 5, 0},
		{5, least, 5, 0}, {5, greatest, least, 0}, {5, least + 1, 10, 0}, {5, 1 << 31, 5, 0}, {5, 1<<32 + 2, 20, 0}, {5, math.MaxInt, least, 0}, {5, math.MinInt, 5, 0}, {5, math.MinInt + 2, 20, 0},
		{1<<32 + 1, 1, 2, 0}, {1 << 31, 1, 0, 0}, {math.MaxInt, 1, -2, 0},
	})
}

func TestShr(t *testing.T) {
	holds(t, api.OpShr, []row{
		{0, 0, 0, 0}, {0, 31, 0, 0}, {1, 0, 1, 0}, {1, 1, 0, 0}, {48, 4, 3, 0}, {-48, 4, -3, 0}, {-1, 1, -1, 0}, {-1, 31, -1, 0}, {-7, 1, -4, 0}, {7, 1, 3, 0},
		{greatest, 30, 1, 0}, {greatest, 31, 0, 0}, {least, 31, -1, 0}, {least, 30, -2, 0}, {least, 1, -1 << 30, 0}, {least, 0, least, 0}, {greatest, 0, greatest, 0},
		{-100, 32, -100, 0}, {-100, 33, -50, 0}, {100, 33, 50, 0}, {-100, 63, -1, 0}, {100, 63, 0, 0}, {-100, 64, -100, 0},
		{-100, -1, -1, 0}, {100, -1, 0, 0}, {100, -31, 50, 0}, {100, -32, 100, 0}, {100, -33, 0, 0}, {100, -30, 25, 0}, {-100, -64, -100, 0},
		{100, least, 100, 0}, {100, greatest, 0, 0}, {100, least + 1, 50, 0}, {100, 1 << 31, 100, 0}, {100, 1<<32 + 2, 25, 0}, {-100, math.MaxInt, -1, 0}, {100, math.MinInt, 100, 0}, {100, math.MinInt + 2, 25, 0},
		{1 << 31, 31, -1, 0}, {1<<32 + 4, 1, 2, 0}, {1<<32 - 8, 1, -4, 0}, {math.MaxInt, 5, -1, 0}, {math.MinInt, 5, 0, 0},
	})
}

func TestDoOfOthersIsNothing(t *testing.T) {
	l := []int{math.MinInt, math.MinInt + 3, -1 << 32, -1<<32 + api.OpAdd, 1<<32 + api.OpAdd, 1<<32 + api.OpNeg, 1<<16 + api.OpSub, 1 << 31, math.MaxInt - 1, math.MaxInt}
	for op := -300; op < 600; op++ {
		if !slices.Contains(operations, op) {
			l = append(l, op)
		}
	}
	if !slices.Contains(l, api.OpPush) || !slices.Contains(l, api.OpStore) || !slices.Contains(l, api.OpDup) || !slices.Contains(l, api.Ops) {
		t.Fatal("not all others")
	}
	few := []int{0, 1, -1, 2, 7, 33, least, greatest, 1 << 31, math.MinInt, math.MaxInt}
	for _, op := range l {
		for _, a := range few {
			for _, b := range few {
				if w, f := word.Do(op, a, b); w != 0 || f != 0 {
					t.Fatalf("Do(%d, %d, %d): %d, %d", op, a, b, w, f)
				}
			}
		}
	}
}

// P3.3

func TestHighOfAllWords(t *testing.T) {
	l := append(words(), beside()...)
	for _, a := range l {
		for _, b := range l {
			p := new(big.Int).Mul(lowest(whole(a)), lowest(whole(b)))
			want := int(p.Rsh(p, 32).Int64())
			if got := word.High(a, b); got != want {
				t.Fatalf("High(%d, %d): %d, not %d", a, b, got, want)
			}
		}
	}
}

func TestHighAtTheEdges(t *testing.T) {
	for _, x := range []struct{ a, b, want int }{
		{0, 0, 0}, {1, 1, 0}, {-1, 1, -1}, {-1, -1, 0}, {0, -1, 0}, {0, least, 0}, {greatest, 1, 0}, {greatest, 2, 0}, {greatest, 3, 1}, {greatest, -1, -1}, {greatest, -3, -2},
		{least, 1, -1}, {least, 2, -1}, {least, 3, -2}, {least, -1, 0}, {least, -2, 1}, {least, -3, 1},
		{least, least, 1 << 30}, {least, greatest, -1 << 30}, {greatest, greatest, 1<<30 - 1}, {least + 1, greatest, -1 << 30}, {least + 1, least + 1, 1<<30 - 1}, {least + 1, least, 1<<30 - 1},
		{1 << 16, 1 << 16, 1}, {1 << 16, 1<<16 - 1, 0}, {-1 << 16, 1 << 16, -1}, {-1<<16 - 1, 1 << 16, -2}, {-1 << 16, -1 << 16, 1}, {1 << 30, 4, 1}, {1 << 30, 3, 0}, {1 << 30, -4, -1}, {1 << 30, -5, -2},
		{1 << 31, 2, -1}, {1<<32 - 1, 1<<32 - 1, 0}, {1 << 32, 1 << 32, 0}, {1<<32 + 1<<16, 1 << 16, 1},
		{math.MaxInt, math.MaxInt, 0}, {math.MaxInt, 1, -1}, {math.MinInt, math.MaxInt, 0}, {math.MinInt, math.MinInt, 0}, {math.MinInt + 1<<31, 2, -1},
	} {
		if got := word.High(x.a, x.b); got != x.want {
			t.Errorf("High(%d, %d): %d, not %d", x.a, x.b, got, x.want)
		}
		if got := word.High(x.b, x.a); got != x.want {
			t.Errorf("High(%d, %d): %d, not %d", x.b, x.a, got, x.want)
		}
	}
}

// A product's lowest bits are those of the words moved and added; with the highest ones they are the product.
func TestHighAndTheProductAreTheWholeProduct(t *testing.T) {
	for _, a := range words() {
		for _, b := range words() {
			w, f := word.Do(api.OpMul, a, b)
			h := word.High(a, b)
			if f == 0 && h != w>>31 {
				t.Fatalf("%d times %d is %d, and its highest bits are %d", a, b, w, h)
			}
			if got := h<<32 | int(uint32(a)*uint32(b)); got != a*b {
				t.Fatalf("%d times %d is %d", a, b, got)
			}
		}
	}
}

// P3.4

func TestWhatWasAddedIsTakenAway(t *testing.T) {
	faults, l := 0, words()
	for _, a := range l {
		for _, b := range l {
			sum, f := word.Do(api.OpAdd, a, b)
			if f != 0 {
				faults++
				continue
			}
			if w, f := word.Do(api.OpSub, sum, b); w != a || f != 0 {
				t.Fatalf("%d and %d are %d; less %d: %d, %d", a, b, sum, b, w, f)
			}
			if w, f := word.Do(api.OpSub, sum, a); w != b || f != 0 {
				t.Fatalf("%d and %d are %d; less %d: %d, %d", a, b, sum, a, w, f)
			}
		}
	}
	if faults == 0 || faults == len(l)*len(l) {
		t.Errorf("%d faults", faults)
	}
}

// The least by -1 has no quotient, but is met by its rest.
func TestQuotientDivisorAndRestAreTheDividend(t *testing.T) {
	l := words()
	for _, a := range l {
		for _, b := range l {
			q, f := word.Do(api.OpDiv, a, b)
			r, g := word.Do(api.OpMod, a, b)
			if b == 0 || a == least && b == -1 {
				if q != 0 || f == 0 || r != 0 || (g == 0) != (b != 0) {
					t.Fatalf("%d by %d: %d, %d, the rest %d, %d", a, b, q, f, r, g)
				}
				continue
			}
			p, h := word.Do(api.OpMul, q, b)
			sum, k := word.Do(api.OpAdd, p, r)
			if f != 0 || g != 0 || h != 0 || k != 0 || sum != a {
				t.Fatalf("%d by %d: %d, the rest %d, which are %d", a, b, q, r, sum)
			}
			if r != 0 && (r < 0) != (a < 0) || max(r, -r) >= max(b, -b) {
				t.Fatalf("%d by %d: the rest is %d", a, b, r)
			}
		}
	}
}

// What is answered hangs on the arguments alone: behind a fault, too.
func TestDoAnswersTheSameAgain(t *testing.T) {
	for range 2 {
		holds(t, api.OpAdd, []row{{greatest, 1, 0, api.Over}})
		holds(t, api.OpDiv, []row{{1, 0, 0, api.DivZero}})
		holds(t, api.OpMod, []row{{1, 0, 0, api.DivZero}})
		holds(t, api.OpAdd, []row{{greatest, 0, greatest, 0}})
	}
}
