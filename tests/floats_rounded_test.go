package tests

import (
	"math"
	"math/big"
	"testing"

	"loop.example/g00043/impl"
)

// nearOfBits looks for the whole number by exact fractions.
func nearOfBits(x uint64) uint64 {
	if !double.isFinite(x) || double.isZero(x) {
		if double.isNan(x) {
			return double.plain()
		}
		return x
	}
	size := double.size(x &^ double.sign())
	low := new(big.Int).Quo(size.Num(), size.Denom())
	above := new(big.Rat).Sub(size, new(big.Rat).SetInt(low))
	half := above.Cmp(big.NewRat(1, 2))
	if half > 0 || half == 0 && low.Bit(0) == 1 {
		low.Add(low, big.NewInt(1))
	}
	if low.Sign() == 0 {
		return double.zero(double.isNeg(x))
	}
	whole := new(big.Rat).SetInt(low)
	if double.isNeg(x) {
		whole.Neg(whole)
	}
	near, _ := whole.Float64()
	return math.Float64bits(near)
}

func nearHolds(t *testing.T, x float64) {
	t.Helper()
	hold(t, "Near", impl.Near(x), nearOfBits(bitsOf(x)), x)
}

func TestFloatNearOfSome(t *testing.T) {
	inf, minus := math.Inf(1), math.Copysign(0, -1)
	for _, c := range [][2]float64{
		{0, 0}, {minus, minus}, {1, 1}, {-1, -1},
		{0.5, 0}, {1.5, 2}, {2.5, 2}, {3.5, 4}, {4.5, 4},
		{-0.5, minus}, {-1.5, -2}, {-2.5, -2}, {-3.5, -4}, {-4.5, -4},
		{0.25, 0}, {-0.25, minus}, {0.75, 1}, {-0.75, -1}, {-2.6, -3}, {2.4, 2},
		{0.49999999999999994, 0}, {0.5000000000000001, 1}, {-0.49999999999999994, minus}, {-0.5000000000000001, -1},
		{0x1p-1074, 0}, {-0x1p-1074, minus}, {0x1p-1022, 0}, {-0x1p-1022, minus},
		{0x1p51 + 0.5, 0x1p51}, {0x1p51 + 1.5, 0x1p51 + 2}, {-0x1p51 - 0.5, -0x1p51}, {-0x1p51 - 1.5, -0x1p51 - 2},
		{0x1p52 - 0.5, 0x1p52}, {0x1p52 - 1.5, 0x1p52 - 2}, {0.5 - 0x1p52, -0x1p52},
		{0x1p52, 0x1p52}, {0x1p52 + 1, 0x1p52 + 1}, {-0x1p52 - 1, -0x1p52 - 1},
		{0x1p53 - 1, 0x1p53 - 1}, {0x1p53 + 2, 0x1p53 + 2}, {1 - 0x1p53, 1 - 0x1p53},
		{0x1p63, 0x1p63}, {-0x1p63, -0x1p63}, {0x1p64, 0x1p64}, {1e300, 1e300}, {math.MaxFloat64, math.MaxFloat64}, {-math.MaxFloat64, -math.MaxFloat64},
		{inf, inf}, {-inf, -inf}, {math.NaN(), math.NaN()},
	} {
		hold(t, "Near", impl.Near(c[0]), bitsOf(c[1]), c[0])
		nearHolds(t, c[0])
	}
}

func TestFloatNearOfMany(t *testing.T) {
	for _, x := range double.edges() {
		nearHolds(t, math.Float64frombits(x))
	}
	g := formSource(331)
	for range 20000 {
		// halves, and their neighbours on both sides, of each size that has some
		half := float64(int64(g.next())>>(12+g.next()%51)) + 0.5
		for _, x := range []float64{half, math.Nextafter(half, math.Inf(1)), math.Nextafter(half, math.Inf(-1))} {
			nearHolds(t, x)
			nearHolds(t, -x)
		}
		nearHolds(t, math.Float64frombits(g.bits(double)))
		// exponents around those at which a fraction ends
		nearHolds(t, math.Ldexp(1+float64(g.next()>>12)*0x1p-52, int(g.next()%58)-3))
	}
}

// What comes out is a whole number, and no farther away than a half.
func TestFloatNearIsNear(t *testing.T) {
	g := formSource(332)
	for range 20000 {
		x := floatKinds[g.next()%5].one(&g)
		exact, near := exactOf(x), exactOf(impl.Near(x))
		if !near.IsInt() {
			t.Errorf("%v becomes %v, which is no whole number", x, impl.Near(x))
		}
		away := new(big.Rat).Sub(exact, near)
		if away.Abs(away).Cmp(big.NewRat(1, 2)) > 0 {
			t.Errorf("%v becomes %v, which is not near", x, impl.Near(x))
		}
		if math.Signbit(x) != math.Signbit(impl.Near(x)) {
			t.Errorf("%v becomes %v, with another sign", x, impl.Near(x))
		}
	}
}

func single32Holds(t *testing.T, x float64) {
	t.Helper()
	single, _ := impl.Convert(impl.Double, impl.Single, impl.NearEven, bitsOf(x))
	want, _ := impl.Convert(impl.Single, impl.Double, impl.NearEven, single)
	hold(t, "Single32", impl.Single32(x), want, x)
	// and by exact fractions, without chapter 1
	byHand := formShapes[1].convert(double, double.convert(formShapes[1], bitsOf(x))[0].bits)[0].bits
	hold(t, "Single32", impl.Single32(x), byHand, x)
}

func TestFloatSingleOfSome(t *testing.T) {
	inf, minus := math.Inf(1), math.Copysign(0, -1)
	greatest := float64(math.MaxFloat32)
	for _, c := range [][2]float64{
		{0, 0}, {minus, minus}, {1, 1}, {-1.5, -1.5}, {0.1, 0.10000000149011612}, {-0.1, -0.10000000149011612},
		{1 + 0x1p-24, 1}, {1 + 0x1p-24 + 0x1p-52, 1 + 0x1p-23}, {1 + 0x1p-24 - 0x1p-52, 1},
		{1 + 3*0x1p-24, 1 + 0x1p-22}, {1 + 3*0x1p-24 - 0x1p-52, 1 + 0x1p-23}, {-1 - 0x1p-24, -1}, {-1 - 3*0x1p-24, -1 - 0x1p-22},
		{0x1p24 + 1, 0x1p24}, {0x1p24 + 3, 0x1p24 + 4},
		{0x1p-126, 0x1p-126}, {0x1p-127, 0x1p-127}, {0x1p-149, 0x1p-149}, {-0x1p-149, -0x1p-149},
		{0x1p-126 - 0x1p-150, 0x1p-126}, {0x1p-126 - 0x1p-151, 0x1p-126}, {0x1p-126 - 0x1p-149, 0x1p-126 - 0x1p-149},
		{0x1p-150, 0}, {-0x1p-150, minus}, {0x1p-150 + 0x1p-202, 0x1p-149}, {3 * 0x1p-150, 0x1p-148}, {5 * 0x1p-150, 0x1p-148},
		{0x1p-151, 0}, {0x1p-1074, 0}, {-0x1p-1074, minus},
		{greatest, greatest}, {greatest + 0x1p102, greatest}, {greatest + 0x1p103, inf}, {greatest + 0x1p103 - 0x1p75, greatest}, {-greatest - 0x1p103, -inf},
		{0x1p128, inf}, {-0x1p128, -inf}, {math.MaxFloat64, inf}, {-math.MaxFloat64, -inf},
		{inf, inf}, {-inf, -inf}, {math.NaN(), math.NaN()},
	} {
		hold(t, "Single32", impl.Single32(c[0]), bitsOf(c[1]), c[0])
		single32Holds(t, c[0])
	}
}

func TestFloatSingleOfMany(t *testing.T) {
	for _, x := range double.edges() {
		single32Holds(t, math.Float64frombits(x))
	}
	g := formSource(333)
	single := formShapes[1]
	for range 5000 {
		// the middle between two numbers of the form, which takes one bit more than they have, and its neighbours
		low := g.bits(single) &^ single.sign()
		if !single.isFinite(low) {
			continue
		}
		middle := new(big.Rat).Add(single.size(low), single.size(low+1))
		x, _ := middle.Mul(middle, big.NewRat(1, 2)).Float64()
		for _, y := range []float64{x, math.Nextafter(x, 0), math.Nextafter(x, math.Inf(1))} {
			single32Holds(t, y)
			single32Holds(t, -y)
		}
		single32Holds(t, math.Float64frombits(g.bits(double)))
	}
}

// A number of the form Single is itself.
func TestFloatSingleStays(t *testing.T) {
	manyBits(334, 20000, func(s formShape, x uint64) {
		if s.form == impl.Double {
			return
		}
		as, _ := impl.Convert(s.form, impl.Double, impl.NearEven, x)
		hold(t, "Single32", impl.Single32(impl.FromBits(as)), as)
	})
}
