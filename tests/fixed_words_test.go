package tests

import (
	"math"
	"slices"
	"testing"

	"loop.example/g00043/impl"
)

var noWidths = []int{0, -1, -2, impl.MaxWord + 1, impl.MaxWord + 2, 63, 64, 65, 1 << 32, 1<<32 + 8, math.MaxInt, math.MinInt}

var noFracs = []int{-1, -2, impl.MaxWord + 1, impl.MaxWord + 2, 60, 61, 64, 1 << 32, math.MaxInt, math.MinInt}

func clipHolds(t *testing.T, x, bits int) {
	t.Helper()
	holdBig(t, "Clip", impl.Clip(x, bits), clipBig(bigOf(x), bits), x, bits)
}

func TestFixedClipsByHand(t *testing.T) {
	for _, c := range []struct{ x, bits, want int }{
		{127, 8, 127}, {128, 8, 127}, {-128, 8, -128}, {-129, 8, -128}, {0, 8, 0}, {200, 8, 127}, {-200, 8, -128}, {5, 8, 5}, {-5, 8, -5},
		{0, 1, 0}, {1, 1, 0}, {-1, 1, -1}, {-2, 1, -1}, {2, 1, 0}, {1, 2, 1}, {2, 2, 1}, {-2, 2, -2}, {-3, 2, -2},
		{8388607, impl.MaxWord, 8388607}, {8388608, impl.MaxWord, 8388607}, {-8388608, impl.MaxWord, -8388608}, {-8388609, impl.MaxWord, -8388608},
		{math.MaxInt, 1, 0}, {math.MinInt, 1, -1}, {math.MaxInt, 8, 127}, {math.MinInt, 8, -128},
		{math.MaxInt, impl.MaxWord, 8388607}, {math.MinInt, impl.MaxWord, -8388608},
	} {
		if got := impl.Clip(c.x, c.bits); got != c.want {
			t.Errorf("Clip of %d to %d bits is %d, not %d", c.x, c.bits, got, c.want)
		}
	}
}

func TestFixedClipsStayWords(t *testing.T) {
	g := formSource(511)
	for bits := 1; bits <= impl.MaxWord; bits++ {
		low, high := -1<<(bits-1), 1<<(bits-1)-1
		for _, x := range []int{low - 1, low, low + 1, -1, 0, 1, high - 1, high, high + 1, math.MaxInt, math.MinInt, math.MaxInt32, math.MinInt32, 1 << 32, -1 << 32} {
			clipHolds(t, x, bits)
		}
		for range 500 {
			clipHolds(t, g.ofAnySize(impl.MaxBig), bits)
			x := g.word(bits)
			if got := impl.Clip(x, bits); got != x {
				t.Errorf("Clip does not leave the word %d of %d bits: %d", x, bits, got)
			}
		}
	}
}

func TestFixedClipsToNoWord(t *testing.T) {
	for _, bits := range noWidths {
		for _, x := range []int{1, -1, 5, 1000000, -1000000, math.MaxInt, math.MinInt} {
			holdBig(t, "Clip to what is none", impl.Clip(x, bits), bigOf(0), x, bits)
		}
	}
}

func mulFixHolds(t *testing.T, a, b, frac, bits, cut int) {
	t.Helper()
	holdBig(t, "MulFix", impl.MulFix(a, b, frac, bits, cut), mulBig(a, b, frac, bits, cut), a, b, frac, bits, cut)
}

func TestFixedProductsByHand(t *testing.T) {
	const low, high = -1 << 23, 1<<23 - 1
	for _, c := range []struct{ a, b, frac, bits, cut, want int }{
		{96, -96, 7, 8, impl.CutNear, -72}, {3, 5, 0, 8, impl.CutDown, 15}, {-3, 5, 0, 8, impl.CutDown, -15}, {3, 1, 1, 8, impl.CutDown, 1}, {-3, 1, 1, 8, impl.CutDown, -2},
		{-3, 1, 1, 8, impl.CutZero, -1}, {-3, 1, 1, 8, impl.CutNear, -1}, {-3, 1, 1, 8, impl.CutEven, -2}, {3, 1, 1, 8, impl.CutNear, 2}, {5, 1, 1, 8, impl.CutEven, 2}, {5, 1, 1, 8, impl.CutNear, 3},
		{-128, -128, 7, 8, impl.CutDown, 127}, {-128, -128, 8, 8, impl.CutDown, 64}, {-128, -128, 0, 8, impl.CutDown, 127}, {-128, 127, 0, 8, impl.CutDown, -128}, {-128, 127, 7, 8, impl.CutDown, -127},
		{127, 127, 7, 8, impl.CutDown, 126}, {127, 127, 0, 8, impl.CutDown, 127}, {-1, -1, 0, 1, impl.CutDown, 0}, {-1, 0, 0, 1, impl.CutDown, 0}, {-1, -1, 1, 1, impl.CutNear, 0},
		{low, low, 23, impl.MaxWord, impl.CutDown, high}, {low, low, impl.MaxWord, impl.MaxWord, impl.CutDown, 1 << 22}, {low, low, 0, impl.MaxWord, impl.CutEven, high},
		{low, high, 0, impl.MaxWord, impl.CutZero, low}, {low, high, 23, impl.MaxWord, impl.CutNear, -high}, {high, high, 23, impl.MaxWord, impl.CutDown, high - 1},
		{high, high, impl.MaxWord, impl.MaxWord, impl.CutDown, 1<<22 - 1}, {-1, 1, impl.MaxWord, impl.MaxWord, impl.CutDown, -1}, {-1, 1, impl.MaxWord, impl.MaxWord, impl.CutZero, 0},
	} {
		if got := impl.MulFix(c.a, c.b, c.frac, c.bits, c.cut); got != c.want {
			t.Errorf("MulFix of %v is %d, not %d", c, got, c.want)
		}
	}
}

func TestFixedProductsOfAllShortWords(t *testing.T) {
	for bits := 1; bits <= 4; bits++ {
		for a := -1 << (bits - 1); a < 1<<(bits-1); a++ {
			for b := -1 << (bits - 1); b < 1<<(bits-1); b++ {
				for frac := 0; frac <= impl.MaxWord; frac++ {
					for _, cut := range cuts {
						mulFixHolds(t, a, b, frac, bits, cut)
					}
				}
			}
		}
	}
}

func TestFixedProductsOfLongWords(t *testing.T) {
	g := formSource(512)
	for bits := 1; bits <= impl.MaxWord; bits++ {
		low, high := -1<<(bits-1), 1<<(bits-1)-1
		for frac := 0; frac <= impl.MaxWord; frac++ {
			for _, cut := range cuts {
				mulFixHolds(t, low, low, frac, bits, cut)
				mulFixHolds(t, low, high, frac, bits, cut)
				mulFixHolds(t, high, high, frac, bits, cut)
				for range 4 {
					mulFixHolds(t, g.word(bits), g.word(bits), frac, bits, cut)
				}
			}
		}
	}
}

func TestFixedProductsThatAreNone(t *testing.T) {
	for bits := 1; bits <= impl.MaxWord; bits++ {
		low, high := -1<<(bits-1), 1<<(bits-1)-1
		for _, bad := range []int{low - 1, high + 1, 2 * low, 1 << 30, 1 << 32, 1<<32 - 1, math.MaxInt, math.MinInt} {
			for _, cut := range cuts {
				holdBig(t, "MulFix of no word", impl.MulFix(bad, -1, 0, bits, cut), bigOf(0), bad, -1, bits, cut)
				holdBig(t, "MulFix with no word", impl.MulFix(-1, bad, 0, bits, cut), bigOf(0), -1, bad, bits, cut)
				holdBig(t, "MulFix of no words", impl.MulFix(bad, bad, 0, bits, cut), bigOf(0), bad, bad, bits, cut)
			}
		}
	}
	for _, cut := range cuts {
		for _, bits := range noWidths {
			holdBig(t, "MulFix to no width", impl.MulFix(1, -1, 0, bits, cut), bigOf(0), bits, cut)
			holdBig(t, "MulFix of noughts to no width", impl.MulFix(0, 0, 0, bits, cut), bigOf(0), bits, cut)
		}
		for _, frac := range noFracs {
			holdBig(t, "MulFix with no frac", impl.MulFix(-8388608, 8388607, frac, impl.MaxWord, cut), bigOf(0), frac, cut)
		}
	}
	for _, cut := range noCuts {
		holdBig(t, "MulFix by no rule", impl.MulFix(-100, 100, 0, 20, cut), bigOf(0), cut)
		holdBig(t, "MulFix by no rule", impl.MulFix(-100, 100, 3, 20, cut), bigOf(0), cut)
	}
}

func TestFixedSumsByHand(t *testing.T) {
	ones := []int{1, 1, 1}
	for _, c := range []struct {
		a, b           []int
		frac, bits     int
		cut            int
		byEach, atOnce int
	}{
		{[]int{}, []int{}, 0, 8, impl.CutDown, 0, 0},
		{[]int{}, []int{}, impl.MaxWord, 1, impl.CutEven, 0, 0},
		{[]int{5}, []int{-7}, 0, 8, impl.CutDown, -35, -35},
		// Rounded each, every half is lost or won.
		{[]int{3, 3, 3}, ones, 1, 8, impl.CutDown, 3, 4}, {[]int{3, 3, 3}, ones, 1, 8, impl.CutZero, 3, 4}, {[]int{3, 3, 3}, ones, 1, 8, impl.CutNear, 6, 5}, {[]int{3, 3, 3}, ones, 1, 8, impl.CutEven, 6, 4},
		{[]int{-3, -3, -3}, ones, 1, 8, impl.CutDown, -6, -5}, {[]int{-3, -3, -3}, ones, 1, 8, impl.CutZero, -3, -4}, {[]int{-3, -3, -3}, ones, 1, 8, impl.CutNear, -3, -4}, {[]int{-3, -3, -3}, ones, 1, 8, impl.CutEven, -6, -4},
		// Clipped each, what is beyond an end is gone.
		{[]int{127, 127, -127}, ones, 0, 8, impl.CutDown, 0, 127}, {[]int{-128, -128, 127}, ones, 0, 8, impl.CutDown, -1, -128}, {[]int{127, 1, -128}, ones, 0, 8, impl.CutDown, -1, 0},
		// The product is clipped ahead of the sum.
		{[]int{-100, 100}, []int{1, 2}, 0, 8, impl.CutDown, 27, 100}, {[]int{100, -100}, []int{1, 2}, 0, 8, impl.CutDown, -28, -100}, {[]int{-1, -128}, []int{1, -128}, 7, 8, impl.CutDown, 126, 127},
		// Order tells: the end is met first or last.
		{[]int{100, 100, -100}, ones, 0, 8, impl.CutDown, 27, 100}, {[]int{100, -100, 100}, ones, 0, 8, impl.CutDown, 100, 100},
		{[]int{-1, -1}, []int{-1, 0}, 0, 1, impl.CutDown, 0, 0}, {[]int{-1, -1}, []int{-1, -1}, 0, 1, impl.CutDown, 0, 0},
	} {
		if got := impl.DotFix(c.a, c.b, c.frac, c.bits, c.cut, true); got != c.byEach {
			t.Errorf("DotFix of %v, each, is %d, not %d", c, got, c.byEach)
		}
		if got := impl.DotFix(c.a, c.b, c.frac, c.bits, c.cut, false); got != c.atOnce {
			t.Errorf("DotFix of %v, once, is %d, not %d", c, got, c.atOnce)
		}
	}
}

func TestFixedSumsOfMaxSignal(t *testing.T) {
	const low, high = -1 << 23, 1<<23 - 1
	lows := slices.Repeat([]int{low}, impl.MaxSignal+1)
	for _, cut := range cuts {
		// 512 times 2^46 is far below MaxBig, and beyond every word.
		holdBig(t, "DotFix at MaxSignal", impl.DotFix(lows[1:], lows[1:], impl.MaxWord, impl.MaxWord, cut, false), bigOf(high))
		holdBig(t, "DotFix at MaxSignal, each", impl.DotFix(lows[1:], lows[1:], impl.MaxWord, impl.MaxWord, cut, true), bigOf(high))
		ones := slices.Repeat([]int{1}, impl.MaxSignal+1)
		for _, each := range []bool{false, true} {
			holdBig(t, "DotFix at MaxSignal", impl.DotFix(ones[1:], ones[1:], 0, 12, cut, each), bigOf(impl.MaxSignal))
			for _, count := range []int{impl.MaxSignal + 1, impl.MaxSignal + 2, 5000} {
				list := slices.Repeat([]int{1}, count)
				holdBig(t, "DotFix of too many", impl.DotFix(list, list, 0, 12, cut, each), bigOf(0), count)
			}
		}
	}
}

func TestFixedSumsAreAsTold(t *testing.T) {
	g := formSource(513)
	for _, count := range []int{0, 1, 2, 3, 4, 7, 20, 100, impl.MaxSignal - 1, impl.MaxSignal} {
		for range 3 {
			for bits := 1; bits <= impl.MaxWord; bits++ {
				frac := int(g.next() % (impl.MaxWord + 1))
				cut := cuts[g.next()%4]
				a, b := g.words(bits, count), g.words(bits, count)
				for _, each := range []bool{false, true} {
					holdBig(t, "DotFix", impl.DotFix(a, b, frac, bits, cut, each), dotBig(a, b, frac, bits, cut, each), a, b, frac, bits, cut, each)
				}
			}
		}
	}
}

// Rounded once, and not at an end of the word, a sum is at most half a step off, and never farther off than rounded each.
func TestFixedSumsRoundedOnceLieNearest(t *testing.T) {
	g := formSource(514)
	off := func(sum, got, frac int) int { return max(sum-got<<frac, got<<frac-sum) }
	for range 3000 {
		a, b := g.words(10, 30), g.words(10, 30)
		sum := 0
		for i := range a {
			sum += a[i] * b[i]
		}
		for frac := 1; frac <= 12; frac++ {
			for _, cut := range []int{impl.CutNear, impl.CutEven} {
				once := impl.DotFix(a, b, frac, impl.MaxWord, cut, false)
				each := impl.DotFix(a, b, frac, impl.MaxWord, cut, true)
				if off(sum, once, frac) > 1<<(frac-1) || off(sum, once, frac) > off(sum, each, frac) {
					t.Errorf("the sum %d by 2^%d is %d once, %d each", sum, frac, once, each)
				}
			}
		}
	}
}

func TestFixedSumsThatAreNone(t *testing.T) {
	good := []int{3, -4, 5, 6}
	for _, each := range []bool{false, true} {
		for _, cut := range cuts {
			holdBig(t, "DotFix", impl.DotFix(good, good, 0, 8, cut, each), bigOf(86))
			for _, other := range [][]int{nil, {3}, {3, -4, 5}, {3, -4, 5, 6, 7}} {
				holdBig(t, "DotFix of two lengths", impl.DotFix(good, other, 0, 8, cut, each), bigOf(0), good, other)
				holdBig(t, "DotFix of two lengths", impl.DotFix(other, good, 0, 8, cut, each), bigOf(0), other, good)
			}
			for place := range good {
				for _, bad := range []int{128, -129, 1 << 32, 1<<32 + 1, math.MaxInt, math.MinInt} {
					list := slices.Clone(good)
					list[place] = bad
					holdBig(t, "DotFix of no word", impl.DotFix(list, good, 0, 8, cut, each), bigOf(0), list, good)
					holdBig(t, "DotFix with no word", impl.DotFix(good, list, 0, 8, cut, each), bigOf(0), good, list)
				}
			}
			for _, bits := range noWidths {
				holdBig(t, "DotFix to no width", impl.DotFix(good, good, 0, bits, cut, each), bigOf(0), bits)
			}
			for _, frac := range noFracs {
				holdBig(t, "DotFix with no frac", impl.DotFix([]int{1 << 22, 1 << 22}, []int{-1 << 23, -1 << 23}, frac, impl.MaxWord, cut, each), bigOf(0), frac)
				holdBig(t, "DotFix of nothing with no frac", impl.DotFix(nil, nil, frac, 8, cut, each), bigOf(0), frac)
			}
		}
		for _, cut := range noCuts {
			holdBig(t, "DotFix by no rule", impl.DotFix(good, good, 0, 8, cut, each), bigOf(0), cut)
		}
	}
}
