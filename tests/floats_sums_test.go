package tests

import (
	"math"
	"math/big"
	"slices"
	"testing"

	"loop.example/g00043/impl"
)

// Promise 5, its first half: sums in their orders are the operations one after the other; a sum and its error are just the two numbers.

// exactOf is the number that a finite float64 is.
func exactOf(x float64) *big.Rat { return new(big.Rat).SetFloat64(x) }

func TestFloatSumsOfMany(t *testing.T) {
	manyLists(311, 6, func(kind string, list []float64) {
		bits := allBits(list)
		hold(t, "Sum, "+kind, impl.Sum(list), sumOfBits(bits), list...)
		hold(t, "PairSum, "+kind, impl.PairSum(list), pairSumOfBits(bits), list...)
		hold(t, "CareSum, "+kind, impl.CareSum(list), careSumOfBits(bits), list...)
	})
}

func TestFloatDotOfMany(t *testing.T) {
	g := formSource(312)
	for _, k := range floatKinds {
		for _, other := range floatKinds {
			for _, n := range floatCounts {
				a, b := k.list(&g, n), other.list(&g, n)
				hold(t, "Dot, "+k.name+", "+other.name, impl.Dot(a, b), dotOfBits(allBits(a), allBits(b)), append(a, b...)...)
			}
		}
	}
}

func TestFloatHornerOfMany(t *testing.T) {
	g := formSource(313)
	manyLists(314, 3, func(kind string, list []float64) {
		for _, k := range floatKinds {
			x := k.one(&g)
			hold(t, "Horner, "+kind+", at "+k.name, impl.Horner(list, x), hornerOfBits(allBits(list), bitsOf(x)), append(list, x)...)
		}
	})
}

func TestFloatSumsOfSome(t *testing.T) {
	inf, nan, minus := math.Inf(1), math.NaN(), math.Copysign(0, -1)
	for _, c := range []struct {
		list              []float64
		sum, pairs, cared float64
	}{
		{nil, 0, 0, 0},
		{[]float64{}, 0, 0, 0},
		{[]float64{3}, 3, 3, 3},
		{[]float64{minus}, 0, minus, 0},
		{[]float64{minus, minus}, 0, minus, 0},
		{[]float64{minus, 0}, 0, 0, 0},
		{[]float64{inf}, inf, inf, inf},
		{[]float64{inf, 1}, inf, inf, nan},
		{[]float64{inf, -inf}, nan, nan, nan},
		{[]float64{nan}, nan, nan, nan},
		{[]float64{1, nan, 2}, nan, nan, nan},
		{[]float64{1e16, 1, 1}, 1e16, 1e16 + 2, 1e16 + 2},
		{[]float64{1, 1, 1e16}, 1e16 + 2, 1e16, 1e16 + 2},
		{[]float64{1e16, 1, 1, 1}, 1e16, 1e16 + 2, 1e16 + 4},
		{[]float64{1e16, 1, -1e16, 1, 1}, 2, 2, 2},
		{[]float64{1, 1, 1e16, -1e16}, 2, 2, 2},
		{[]float64{1, 1e16, -1e16, 1}, 1, 0, 1},
		{[]float64{1e16, -1e16, 1, 1}, 2, 2, 2},
		{[]float64{math.MaxFloat64, math.MaxFloat64, -math.MaxFloat64}, inf, math.MaxFloat64, nan},
		{[]float64{math.MaxFloat64, -math.MaxFloat64, math.MaxFloat64, math.MaxFloat64}, inf, inf, inf},
		{[]float64{0x1p-1074, 0x1p-1074, -0x1p-1022}, 0x1p-1073 - 0x1p-1022, 0x1p-1073 - 0x1p-1022, 0x1p-1073 - 0x1p-1022},
	} {
		hold(t, "Sum", impl.Sum(c.list), bitsOf(c.sum), c.list...)
		hold(t, "PairSum", impl.PairSum(c.list), bitsOf(c.pairs), c.list...)
		hold(t, "CareSum", impl.CareSum(c.list), bitsOf(c.cared), c.list...)
	}
}

// In these lists another order comes out otherwise, so that the order is to be seen in the answer.
func TestFloatSumsHangOnTheirOrder(t *testing.T) {
	turned := 0
	manyLists(315, 3, func(kind string, list []float64) {
		if kind != "far apart" || len(list) < 12 {
			return
		}
		bits := allBits(list)
		back := slices.Clone(bits)
		slices.Reverse(back)
		for _, sum := range []func([]uint64) uint64{sumOfBits, pairSumOfBits} {
			if sum(bits) != sum(back) {
				turned++
			}
		}
		if sumOfBits(bits) != pairSumOfBits(bits) && sumOfBits(bits) != careSumOfBits(bits) {
			turned++
		}
	})
	if turned < 20 {
		t.Errorf("only %d sums hang on their order: the lists of these tests tell nothing", turned)
	}
}

func TestFloatDotAndHornerOfSome(t *testing.T) {
	inf, nan, minus := math.Inf(1), math.NaN(), math.Copysign(0, -1)
	for _, c := range []struct {
		a, b []float64
		want float64
	}{
		{nil, nil, 0},
		{nil, []float64{}, 0},
		{[]float64{1, 2, 3}, []float64{4, 5, 6}, 32},
		{[]float64{minus}, []float64{1}, 0},
		{[]float64{0}, []float64{inf}, nan},
		{[]float64{1e200, 1}, []float64{1e200, 1}, inf},
		{[]float64{1e200, 1e200}, []float64{1e200, -1e200}, nan},
		{[]float64{1e8, 1, 1}, []float64{1e8, 1, 1}, 1e16},
		{[]float64{1, 1, 1e8}, []float64{1, 1, 1e8}, 1e16 + 2},
		{[]float64{0x1p-600}, []float64{0x1p-474}, 0x1p-1074},
		{[]float64{0x1p-600}, []float64{0x1p-475}, 0},
	} {
		hold(t, "Dot", impl.Dot(c.a, c.b), bitsOf(c.want), append(slices.Clone(c.a), c.b...)...)
	}
	for _, c := range []struct {
		list []float64
		x    float64
		want float64
	}{
		{nil, 2, 0},
		{nil, nan, 0},
		{[]float64{5}, 2, 5},
		{[]float64{5}, nan, 5},
		{[]float64{minus}, 2, minus},
		{[]float64{minus, minus}, 2, minus},
		{[]float64{0, minus}, 2, 0},
		{[]float64{1, 2, 3}, 2, 17},
		{[]float64{3, 2, 1}, 2, 11},
		{[]float64{7, 0, 0, 1}, -2, -1},
		{[]float64{1, 0}, inf, nan},
		{[]float64{1, 1}, inf, inf},
		{[]float64{1, 1e200, 1e200}, -1e200, inf},
		{[]float64{1, 1}, 1e16, 1e16},
	} {
		hold(t, "Horner", impl.Horner(c.list, c.x), bitsOf(c.want), append(slices.Clone(c.list), c.x)...)
	}
}

// The square of x is 1 + 2^-26 + 2^-54, whose last part is lost by its own rounding, and kept when it is fused with a sum.
func TestFloatProductsAreNotFused(t *testing.T) {
	x := 1 + 0x1p-27
	rounded := 1 + 0x1p-26
	if fused, _ := impl.Fma(impl.Double, impl.NearEven, bitsOf(x), bitsOf(x), bitsOf(-rounded)); fused != bitsOf(0x1p-54) {
		t.Fatalf("fused it would be %x", fused)
	}
	hold(t, "Dot", impl.Dot([]float64{-rounded, x}, []float64{1, x}), 0, rounded, x)
	hold(t, "Dot", impl.Dot([]float64{x, -rounded}, []float64{x, 1}), 0, rounded, x)
	hold(t, "Dot", impl.Dot([]float64{x, x}, []float64{x, -x}), 0, x)
	hold(t, "Horner", impl.Horner([]float64{-rounded, x}, x), 0, rounded, x)
	hold(t, "Horner", impl.Horner([]float64{-rounded, 0, 1}, x), 0, rounded, x)
}

func twoSumHolds(t *testing.T, a, b float64) {
	t.Helper()
	s, e := impl.TwoSum(a, b)
	wantSum, wantError := twoSumOfBits(bitsOf(a), bitsOf(b))
	hold(t, "TwoSum's sum", s, wantSum, a, b)
	hold(t, "TwoSum's error", e, wantError, a, b)
	// where already s - a overflows, the steps that the chapter names lose the error (TestFloatTwoSumOfSome has such a sum)
	if v := s - a; math.IsNaN(v) || math.IsInf(v, 0) || math.IsInf(b, 0) {
		return
	}
	both := new(big.Rat).Add(exactOf(a), exactOf(b))
	if math.IsNaN(e) || math.IsInf(e, 0) || both.Cmp(new(big.Rat).Add(exactOf(s), exactOf(e))) != 0 {
		t.Errorf("TwoSum of %v and %v: %v and %v are not the two", a, b, s, e)
	}
}

func TestFloatTwoSumOfSome(t *testing.T) {
	inf, nan, minus := math.Inf(1), math.NaN(), math.Copysign(0, -1)
	for _, c := range []struct{ a, b, s, e float64 }{
		{1, 2, 3, 0},
		{1e16, 1, 1e16, 1},
		{1, 1e16, 1e16, 1},
		{-1e16, 1, -1e16, 1},
		{1, 0x1p-60, 1, 0x1p-60},
		{0x1p-60, 1, 1, 0x1p-60},
		{1, 0x1p-1074, 1, 0x1p-1074},
		{1, -1, 0, 0},
		{0, 0, 0, 0},
		{minus, minus, minus, 0},
		{minus, 0, 0, 0},
		{inf, 1, inf, nan},
		{1, inf, inf, nan},
		{inf, -inf, nan, nan},
		{nan, 1, nan, nan},
		{1, nan, nan, nan},
		{math.MaxFloat64, math.MaxFloat64, inf, nan},
		{math.MaxFloat64, -0x1p1022 - 3*0x1p970, 3*0x1p1022 - 0x1p972, -0x1p970},
		{-0x1p1022 - 3*0x1p970, math.MaxFloat64, 3*0x1p1022 - 0x1p972, nan},
	} {
		s, e := impl.TwoSum(c.a, c.b)
		hold(t, "TwoSum's sum", s, bitsOf(c.s), c.a, c.b)
		hold(t, "TwoSum's error", e, bitsOf(c.e), c.a, c.b)
	}
}

func TestFloatTwoSumIsTheTwo(t *testing.T) {
	for _, a := range double.edges() {
		for _, b := range double.edges() {
			twoSumHolds(t, math.Float64frombits(a), math.Float64frombits(b))
		}
	}
	g := formSource(316)
	for _, k := range floatKinds {
		for _, other := range floatKinds {
			for range 500 {
				a, b := k.one(&g), other.one(&g)
				twoSumHolds(t, a, b)
				twoSumHolds(t, b, a)
			}
		}
	}
}

func TestFloatSumsAtMaxFloats(t *testing.T) {
	most := slices.Repeat([]float64{1}, impl.MaxFloats)
	one := slices.Repeat([]float64{1}, impl.MaxFloats+1)
	for _, c := range []struct {
		name string
		call func(list []float64) float64
	}{
		{"Sum", impl.Sum},
		{"PairSum", impl.PairSum},
		{"CareSum", impl.CareSum},
		{"Dot", func(list []float64) float64 { return impl.Dot(list, list) }},
		{"Horner", func(list []float64) float64 { return impl.Horner(list, 1) }},
	} {
		hold(t, c.name+" at MaxFloats", c.call(most), bitsOf(impl.MaxFloats))
		hold(t, c.name+" past MaxFloats", c.call(one), 0)
		hold(t, c.name+" at MaxFloats with room behind", c.call(one[:impl.MaxFloats]), bitsOf(impl.MaxFloats))
	}
}
