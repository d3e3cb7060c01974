package tests

import (
	"math"
	"testing"

	"loop.example/g00043/impl"
)

// Promise 6, of two pairs: they may be exchanged in sums and products; what was multiplied is divided.

func TestPairOperationsOfMany(t *testing.T) {
	manyPairs(401, 200, func(a, b impl.Pair) {
		x, y := bitsOfPair(a), bitsOfPair(b)
		holdPair(t, "AddPair", impl.AddPair(a, b), addPairBits(x, y), a, b)
		holdPair(t, "SubPair", impl.SubPair(a, b), subPairBits(x, y), a, b)
		holdPair(t, "MulPair", impl.MulPair(a, b), mulPairBits(x, y), a, b)
		holdPair(t, "DivPair", impl.DivPair(a, b), divPairBits(x, y), a, b)
		holdPair(t, "Bar", impl.Bar(a), barBits(x), a)
		hold(t, "Power2", impl.Power2(a), power2Bits(x), a.Re, a.Im)
		if got := impl.Equal(a, b); got != equalBits(x, y) {
			t.Errorf("Equal of %v and %v: %v", a, b, got)
		}
		if got := impl.Equal(a, a); got != equalBits(x, x) {
			t.Errorf("Equal of %v and itself: %v", a, got)
		}
	})
}

func TestPairsMayBeExchanged(t *testing.T) {
	manyPairs(402, 300, func(a, b impl.Pair) {
		holdPair(t, "AddPair, exchanged,", impl.AddPair(b, a), bitsOfPair(impl.AddPair(a, b)), a, b)
		holdPair(t, "MulPair, exchanged,", impl.MulPair(b, a), bitsOfPair(impl.MulPair(a, b)), a, b)
	})
}

func TestPairSumsOfSome(t *testing.T) {
	inf, nan, minus := math.Inf(1), math.NaN(), math.Copysign(0, -1)
	for _, c := range []struct{ a, b, sum, difference impl.Pair }{
		{pairOf(1, 2), pairOf(3, -1), pairOf(4, 1), pairOf(-2, 3)},
		{pairOf(0, minus), pairOf(minus, minus), pairOf(0, minus), pairOf(0, 0)},
		{pairOf(minus, minus), pairOf(minus, 0), pairOf(minus, 0), pairOf(0, minus)},
		{pairOf(minus, 0), pairOf(0, 0), pairOf(0, 0), pairOf(minus, 0)},
		{pairOf(5, -5), pairOf(-5, 5), pairOf(0, 0), pairOf(10, -10)},
		{pairOf(inf, 1), pairOf(inf, 2), pairOf(inf, 3), pairOf(nan, -1)},
		{pairOf(1, inf), pairOf(2, -inf), pairOf(3, nan), pairOf(-1, inf)},
		{pairOf(nan, 1), pairOf(1, 1), pairOf(nan, 2), pairOf(nan, 0)},
		{pairOf(1, 1), pairOf(1, nan), pairOf(2, nan), pairOf(0, nan)},
		{pairOf(1e16, 1), pairOf(1, 1e16), pairOf(1e16, 1e16), pairOf(1e16, -1e16)},
		{pairOf(math.MaxFloat64, 0x1p-1074), pairOf(math.MaxFloat64, 0x1p-1074), pairOf(inf, 0x1p-1073), pairOf(0, 0)},
	} {
		holdPair(t, "AddPair", impl.AddPair(c.a, c.b), bitsOfPair(c.sum), c.a, c.b)
		holdPair(t, "SubPair", impl.SubPair(c.a, c.b), bitsOfPair(c.difference), c.a, c.b)
	}
}

func TestPairProductsOfSome(t *testing.T) {
	inf, nan, minus := math.Inf(1), math.NaN(), math.Copysign(0, -1)
	for _, c := range []struct{ a, b, product impl.Pair }{
		{pairOf(1, 2), pairOf(3, -1), pairOf(5, 5)},
		{pairOf(0, 1), pairOf(0, 1), pairOf(-1, 0)},
		{pairOf(0, 1), pairOf(0, -1), pairOf(1, 0)},
		{pairOf(1, 0), pairOf(7, minus), pairOf(7, 0)},
		{pairOf(1, minus), pairOf(7, minus), pairOf(7, minus)},
		{pairOf(minus, 0), pairOf(1, 0), pairOf(minus, 0)},
		{pairOf(minus, minus), pairOf(1, 1), pairOf(0, minus)},
		{pairOf(-3, 2), pairOf(0, 0), pairOf(minus, 0)},
		// an infinity is not mended: the parts are what the formula gives
		{pairOf(inf, 0), pairOf(1, 0), pairOf(inf, nan)},
		{pairOf(inf, 1), pairOf(1, 1), pairOf(inf, inf)},
		{pairOf(inf, inf), pairOf(1, 1), pairOf(nan, inf)},
		{pairOf(inf, nan), pairOf(1, 1), pairOf(nan, nan)},
		{pairOf(inf, -inf), pairOf(inf, inf), pairOf(inf, nan)},
		{pairOf(0, inf), pairOf(0, inf), pairOf(-inf, nan)},
		{pairOf(2, nan), pairOf(3, 0), pairOf(nan, nan)},
		{pairOf(1e200, 1e200), pairOf(1e200, 1e200), pairOf(nan, inf)},
		{pairOf(1e200, 0), pairOf(1e200, 1), pairOf(inf, 1e200)},
		{pairOf(0x1p-600, 0), pairOf(0x1p-474, -0x1p-475), pairOf(0x1p-1074, 0)},
	} {
		holdPair(t, "MulPair", impl.MulPair(c.a, c.b), bitsOfPair(c.product), c.a, c.b)
		holdPair(t, "MulPair", impl.MulPair(c.b, c.a), bitsOfPair(c.product), c.b, c.a)
	}
}

func TestPairQuotientsOfSome(t *testing.T) {
	inf, nan, minus := math.Inf(1), math.NaN(), math.Copysign(0, -1)
	for _, c := range []struct{ a, b, quotient impl.Pair }{
		{pairOf(5, 5), pairOf(3, -1), pairOf(1, 2)},
		{pairOf(1, 0), pairOf(0, 1), pairOf(0, -1)},
		{pairOf(1, 2), pairOf(1, 0), pairOf(1, 2)},
		{pairOf(0, 0), pairOf(1, 1), pairOf(0, 0)},
		{pairOf(1, 0), pairOf(3, 0), pairOf(3.0/9, 0)},
		{pairOf(1, minus), pairOf(3, 0), pairOf(3.0/9, minus)},
		// d is 0: by 0, and where both products are lost below the least number
		{pairOf(1, 1), pairOf(0, 0), pairOf(nan, nan)},
		{pairOf(0, 0), pairOf(0, 0), pairOf(nan, nan)},
		{pairOf(inf, 1), pairOf(0, 0), pairOf(nan, nan)},
		{pairOf(1, 0), pairOf(0x1p-600, 0), pairOf(inf, nan)},
		{pairOf(1, -1), pairOf(0x1p-600, 0), pairOf(inf, -inf)},
		{pairOf(1, 1), pairOf(0, 0x1p-600), pairOf(inf, -inf)},
		{pairOf(0, 1), pairOf(0x1p-600, 0x1p-600), pairOf(inf, inf)},
		// d is below normal
		{pairOf(1, 0), pairOf(0x1p-537, 0), pairOf(0x1p537, 0)},
		{pairOf(0x1p-537, 0), pairOf(0x1p-537, 0x1p-537), pairOf(0.5, -0.5)},
		{pairOf(0x1p-537, 0), pairOf(3*0x1p-537, 0), pairOf(3.0/9, 0)},
		// d is infinite, although b is finite, and where it is not
		{pairOf(1, 1), pairOf(1e200, 0), pairOf(0, 0)},
		{pairOf(1, -1), pairOf(1e200, 0), pairOf(0, minus)},
		{pairOf(1e200, 0), pairOf(1e200, 1e200), pairOf(nan, nan)},
		{pairOf(1, 1), pairOf(inf, 0), pairOf(nan, nan)},
		{pairOf(1, 0), pairOf(inf, 1), pairOf(nan, nan)},
		// d is NaN
		{pairOf(1, 1), pairOf(nan, 1), pairOf(nan, nan)},
		{pairOf(1, 1), pairOf(1, nan), pairOf(nan, nan)},
		{pairOf(nan, 1), pairOf(1, 0), pairOf(nan, nan)},
		{pairOf(inf, 0), pairOf(1, 0), pairOf(inf, nan)},
	} {
		holdPair(t, "DivPair", impl.DivPair(c.a, c.b), bitsOfPair(c.quotient), c.a, c.b)
		holdPair(t, "DivPair", impl.DivPair(c.a, c.b), divPairBits(bitsOfPair(c.a), bitsOfPair(c.b)), c.a, c.b)
	}
}

// Whole numbers this small leave nothing to round, so that the quotient is just the number that was multiplied.
func TestPairMultipliedIsDivided(t *testing.T) {
	g := formSource(403)
	for range 20000 {
		a, b := smallPair(&g, 1000), smallPair(&g, 1000)
		if b == (impl.Pair{}) {
			continue
		}
		if got := impl.DivPair(impl.MulPair(a, b), b); !impl.Equal(got, a) {
			t.Errorf("%v times %v by the latter: %v", a, b, got)
		}
		if got := impl.SubPair(impl.AddPair(a, b), b); !impl.Equal(got, a) {
			t.Errorf("%v plus %v less the latter: %v", a, b, got)
		}
	}
}

// Of other numbers it is that up to rounding: the error is measured against the size of what was multiplied.
func TestPairMultipliedIsDividedUpToRounding(t *testing.T) {
	g := formSource(404)
	near := floatKinds[0]
	for range 20000 {
		a, b := near.pair(&g), near.pair(&g)
		back := impl.SubPair(impl.DivPair(impl.MulPair(a, b), b), a)
		if impl.Power2(back) > impl.Power2(a)*0x1p-98 {
			t.Errorf("%v times %v by the latter is off by %v", a, b, back)
		}
	}
}

func TestPairBar(t *testing.T) {
	inf, nan, minus := math.Inf(1), math.NaN(), math.Copysign(0, -1)
	for _, c := range []struct{ a, bar impl.Pair }{
		{pairOf(1, 2), pairOf(1, -2)},
		{pairOf(-1, -2), pairOf(-1, 2)},
		{pairOf(0, 0), pairOf(0, minus)},
		{pairOf(minus, minus), pairOf(minus, 0)},
		{pairOf(inf, inf), pairOf(inf, -inf)},
		{pairOf(nan, -inf), pairOf(nan, inf)},
		{pairOf(3, nan), pairOf(3, nan)},
		{pairOf(3, 0x1p-1074), pairOf(3, -0x1p-1074)},
	} {
		holdPair(t, "Bar", impl.Bar(c.a), bitsOfPair(c.bar), c.a)
		holdPair(t, "Bar of Bar", impl.Bar(impl.Bar(c.a)), bitsOfPair(c.a), c.a)
	}
	for _, x := range []float64{nan, math.Copysign(nan, -1)} {
		if got := impl.Bar(impl.Pair{Re: x, Im: x}); math.Signbit(got.Im) == math.Signbit(x) || math.Signbit(got.Re) != math.Signbit(x) {
			t.Errorf("Bar of %x is %x", math.Float64bits(x), rawPairs([]impl.Pair{got}))
		}
	}
}

func TestPairPower2OfSome(t *testing.T) {
	inf, nan, minus := math.Inf(1), math.NaN(), math.Copysign(0, -1)
	for _, c := range []struct {
		a    impl.Pair
		want float64
	}{
		{pairOf(1, 2), 5},
		{pairOf(-3, 4), 25},
		{pairOf(minus, minus), 0},
		{pairOf(0, minus), 0},
		{pairOf(1e200, 0), inf},
		{pairOf(0x1p-537, 0), 0x1p-1074},
		{pairOf(0x1p-538, 0x1p-538), 0},
		{pairOf(-inf, 1), inf},
		{pairOf(inf, nan), nan},
		{pairOf(nan, 0), nan},
	} {
		hold(t, "Power2", impl.Power2(c.a), bitsOf(c.want), c.a.Re, c.a.Im)
	}
}

func TestPairEqual(t *testing.T) {
	inf, nan, minus := math.Inf(1), math.NaN(), math.Copysign(0, -1)
	for _, c := range []struct {
		a, b impl.Pair
		want bool
	}{
		{pairOf(1, 2), pairOf(1, 2), true},
		{pairOf(1, 2), pairOf(1, 3), false},
		{pairOf(1, 2), pairOf(0, 2), false},
		{pairOf(1, 2), pairOf(2, 1), false},
		{pairOf(1, 2), pairOf(1, -2), false},
		{pairOf(0, 0), pairOf(minus, 0), true},
		{pairOf(0, 0), pairOf(0, minus), true},
		{pairOf(minus, 0), pairOf(0, minus), true},
		{pairOf(0, 0), pairOf(0x1p-1074, 0), false},
		{pairOf(0, 0), pairOf(0, 0x1p-1074), false},
		{pairOf(inf, -inf), pairOf(inf, -inf), true},
		{pairOf(inf, inf), pairOf(inf, -inf), false},
		{pairOf(nan, 1), pairOf(nan, 1), false},
		{pairOf(1, nan), pairOf(1, nan), false},
		{pairOf(nan, nan), pairOf(nan, nan), false},
		{pairOf(nan, 1), pairOf(1, 1), false},
		{pairOf(1, 1), pairOf(1, nan), false},
		{pairOf(math.MaxFloat64, 1), pairOf(inf, 1), false},
	} {
		if impl.Equal(c.a, c.b) != c.want || impl.Equal(c.b, c.a) != c.want {
			t.Errorf("Equal of %v and %v: %v and %v, not %v", c.a, c.b, impl.Equal(c.a, c.b), impl.Equal(c.b, c.a), c.want)
		}
	}
}
