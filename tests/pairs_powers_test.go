package tests

import (
	"math"
	"slices"
	"testing"

	"loop.example/g00043/impl"
)

// Promise 6, of powers and polynomials: powers of sums are products of powers; a polynomial of roots is 0 at them.

var pairPowers = []int{0, 1, 2, 3, 4, 5, 6, 7, 8, 15, 16, 17, 100, 127, 128, 255, 511, 512, 513, 998, 999, 1000}

func TestPairPowersOfMany(t *testing.T) {
	g := formSource(421)
	for _, k := range floatKinds {
		for range 12 {
			a := k.pair(&g)
			for _, n := range pairPowers {
				holdPair(t, "PowPair", impl.PowPair(a, n), powPairBits(bitsOfPair(a), n), a, pairOf(float64(n), 0))
			}
		}
	}
	for _, a := range edgePairs() {
		for _, n := range pairPowers {
			holdPair(t, "PowPair", impl.PowPair(a, n), powPairBits(bitsOfPair(a), n), a, pairOf(float64(n), 0))
		}
	}
}

// Near the unit circle no power is lost in the ends, so that each n shows the roundings of its own products.
func TestPairPowersToAllNumbers(t *testing.T) {
	for _, a := range []impl.Pair{pairOf(0.6, 0.8), pairOf(-0.7, 0.7), pairOf(1+0x1p-30, 0x1p-20), pairOf(0.1, -0.99)} {
		for n := range 1001 {
			holdPair(t, "PowPair", impl.PowPair(a, n), powPairBits(bitsOfPair(a), n), a, pairOf(float64(n), 0))
		}
	}
}

func TestPairPowersOfSome(t *testing.T) {
	inf, nan, minus := math.Inf(1), math.NaN(), math.Copysign(0, -1)
	for _, c := range []struct {
		a    impl.Pair
		n    int
		want impl.Pair
	}{
		{pairOf(1, 1), 0, pairOf(1, 0)},
		{pairOf(0, 0), 0, pairOf(1, 0)},
		{pairOf(nan, nan), 0, pairOf(1, 0)},
		{pairOf(inf, -inf), 0, pairOf(1, 0)},
		{pairOf(1, 1), 1, pairOf(1, 1)},
		{pairOf(1, 1), 2, pairOf(0, 2)},
		{pairOf(1, 1), 3, pairOf(-2, 2)},
		{pairOf(1, 1), 8, pairOf(16, 0)},
		{pairOf(2, -1), 3, pairOf(2, -11)},
		{pairOf(1, 1), 1000, pairOf(0x1p500, 0)},
		{pairOf(0, 1), 1000, pairOf(1, 0)},
		{pairOf(2, 0), 1000, pairOf(0x1p1000, 0)},
		{pairOf(0.5, 0), 1000, pairOf(0x1p-1000, 0)},
		// 1 with Im 0 is multiplied even by the first power
		{pairOf(minus, minus), 1, pairOf(0, minus)},
		{pairOf(minus, 0), 1, pairOf(minus, 0)},
		{pairOf(inf, 2), 1, pairOf(inf, nan)},
		{pairOf(2, inf), 1, pairOf(nan, inf)},
		{pairOf(nan, 1), 1, pairOf(nan, nan)},
	} {
		holdPair(t, "PowPair", impl.PowPair(c.a, c.n), bitsOfPair(c.want), c.a, pairOf(float64(c.n), 0))
	}
}

// Other orders of products come out otherwise, so that the order is to be seen in the answer.
func TestPairPowersHangOnTheirOrder(t *testing.T) {
	g := formSource(422)
	others := 0
	for range 300 {
		a := floatKinds[0].pair(&g)
		x := bitsOfPair(a)
		oneByOne, fromTheTop := onePair, onePair
		for range 13 {
			oneByOne = mulPairBits(oneByOne, x)
		}
		for _, odd := range []bool{true, true, false, true} {
			fromTheTop = mulPairBits(fromTheTop, fromTheTop)
			if odd {
				fromTheTop = mulPairBits(fromTheTop, x)
			}
		}
		want := powPairBits(x, 13)
		if want != oneByOne && want != fromTheTop {
			others++
		}
		holdPair(t, "PowPair to 13", impl.PowPair(a, 13), want, a)
	}
	if others < 100 {
		t.Errorf("only %d powers hang on their order", others)
	}
}

// Where nothing is rounded a power is the product of powers, whatever the order.
func TestPairPowersOfSumsAreProducts(t *testing.T) {
	g := formSource(423)
	for range 2000 {
		a := smallPair(&g, 5)
		for _, c := range [][2]int{{0, 0}, {0, 7}, {1, 1}, {1, 2}, {2, 3}, {3, 4}, {4, 4}, {5, 6}, {1, 9}, {6, 8}} {
			m, n := c[0], c[1]
			product := impl.MulPair(impl.PowPair(a, m), impl.PowPair(a, n))
			if whole := impl.PowPair(a, m+n); !impl.Equal(whole, product) {
				t.Errorf("%v to %d + %d is %v, the product %v", a, m, n, whole, product)
			}
			again := impl.PowPair(impl.PowPair(a, m), n)
			if m*n <= 14 && !impl.Equal(again, impl.PowPair(a, m*n)) {
				t.Errorf("%v to %d, to %d is %v, not %v", a, m, n, again, impl.PowPair(a, m*n))
			}
		}
	}
	for n := range 1001 {
		for m := 0; m <= n; m += 111 {
			a := pairOf(0, 1)
			if whole := impl.PowPair(a, n); !impl.Equal(whole, impl.MulPair(impl.PowPair(a, m), impl.PowPair(a, n-m))) {
				t.Errorf("%v to %d is %v", a, n, whole)
			}
		}
	}
}

func TestPairPowersOfSumsAreProductsUpToRounding(t *testing.T) {
	g := formSource(424)
	for range 300 {
		a := floatKinds[0].pair(&g)
		for _, c := range [][2]int{{1, 2}, {7, 8}, {13, 20}, {31, 33}} {
			whole := impl.PowPair(a, c[0]+c[1])
			off := impl.SubPair(impl.MulPair(impl.PowPair(a, c[0]), impl.PowPair(a, c[1])), whole)
			if impl.Power2(whole) > 0x1p-600 && impl.Power2(whole) < 0x1p600 && impl.Power2(off) > impl.Power2(whole)*0x1p-86 {
				t.Errorf("%v to %d + %d is off by %v", a, c[0], c[1], off)
			}
		}
	}
}

func TestPairPolynomialsOfMany(t *testing.T) {
	g := formSource(425)
	manyPairLists(426, impl.MaxPairs, func(kind string, list []impl.Pair) {
		for _, k := range floatKinds {
			x := k.pair(&g)
			holdPair(t, "PolyPair, "+kind+", at "+k.name, impl.PolyPair(list, x), polyPairBits(bitsOfPairs(list), bitsOfPair(x)), append(list, x)...)
		}
	})
}

func TestPairPolynomialsOfSome(t *testing.T) {
	inf, nan, minus := math.Inf(1), math.NaN(), math.Copysign(0, -1)
	for _, c := range []struct {
		list    []impl.Pair
		x, want impl.Pair
	}{
		{nil, pairOf(2, 3), impl.Pair{}},
		{[]impl.Pair{}, pairOf(nan, nan), impl.Pair{}},
		{[]impl.Pair{pairOf(5, -6)}, pairOf(2, 3), pairOf(5, -6)},
		{[]impl.Pair{pairOf(minus, minus)}, pairOf(2, 3), pairOf(minus, minus)},
		{[]impl.Pair{pairOf(5, inf)}, pairOf(nan, nan), pairOf(5, inf)},
		{[]impl.Pair{pairOf(1, 0), pairOf(0, 0), pairOf(1, 0)}, pairOf(0, 1), pairOf(0, 0)},
		{[]impl.Pair{pairOf(1, 0), pairOf(2, 0), pairOf(3, 0)}, pairOf(2, 0), pairOf(17, 0)},
		{[]impl.Pair{pairOf(3, 0), pairOf(2, 0), pairOf(1, 0)}, pairOf(2, 0), pairOf(11, 0)},
		{[]impl.Pair{pairOf(1, 2), pairOf(3, 4)}, pairOf(5, 6), pairOf(-8, 40)},
		{[]impl.Pair{pairOf(1, 2), pairOf(0, 0)}, pairOf(inf, 0), pairOf(nan, nan)},
		{[]impl.Pair{pairOf(1, 0), pairOf(1, 0)}, pairOf(1e16, 0), pairOf(1e16, 0)},
		{[]impl.Pair{pairOf(minus, minus), pairOf(minus, minus)}, pairOf(1, 1), pairOf(0, minus)},
	} {
		holdPair(t, "PolyPair", impl.PolyPair(c.list, c.x), bitsOfPair(c.want), append(slices.Clone(c.list), c.x)...)
	}
}

func TestPairRootsOfMany(t *testing.T) {
	manyPairLists(427, impl.MaxPairs-1, func(kind string, list []impl.Pair) {
		holdPairs(t, "RootsTo, "+kind, impl.RootsTo(list), rootsToBits(bitsOfPairs(list)), list...)
	})
	for _, w := range edgePairs() {
		for _, list := range [][]impl.Pair{{w}, {w, pairOf(1, 2)}, {pairOf(1, 2), w}, {w, w}} {
			holdPairs(t, "RootsTo", impl.RootsTo(list), rootsToBits(bitsOfPairs(list)), list...)
		}
	}
}

func TestPairRootsOfSome(t *testing.T) {
	inf, nan, minus := math.Inf(1), math.NaN(), math.Copysign(0, -1)
	one := pairOf(1, 0)
	for _, c := range []struct{ roots, want []impl.Pair }{
		{nil, []impl.Pair{one}},
		{[]impl.Pair{}, []impl.Pair{one}},
		{[]impl.Pair{pairOf(3, 4)}, []impl.Pair{pairOf(-3, -4), one}},
		{[]impl.Pair{pairOf(2, 0), pairOf(0, 1)}, []impl.Pair{pairOf(0, 2), pairOf(-2, -1), one}},
		{[]impl.Pair{pairOf(1, 0), pairOf(2, 0), pairOf(3, 0)}, []impl.Pair{pairOf(-6, 0), pairOf(11, 0), pairOf(-6, 0), one}},
		// the lowest power is the zero Pair less the product: never -0 of a product 0 or -0
		{[]impl.Pair{pairOf(0, 0)}, []impl.Pair{pairOf(0, 0), one}},
		{[]impl.Pair{pairOf(minus, minus)}, []impl.Pair{pairOf(0, 0), one}},
		{[]impl.Pair{pairOf(0, minus), pairOf(minus, 0)}, []impl.Pair{pairOf(0, 0), pairOf(0, 0), one}},
		// the number of the highest power is 1 whatever the roots are
		{[]impl.Pair{pairOf(nan, 0)}, []impl.Pair{pairOf(nan, nan), one}},
		{[]impl.Pair{pairOf(inf, 0)}, []impl.Pair{pairOf(-inf, nan), one}},
		{[]impl.Pair{pairOf(1, 0), pairOf(nan, 0)}, []impl.Pair{pairOf(nan, nan), pairOf(nan, nan), one}},
		{[]impl.Pair{pairOf(1e200, 0), pairOf(1e200, 0)}, []impl.Pair{pairOf(inf, 0), pairOf(-2e200, 0), one}},
	} {
		holdPairs(t, "RootsTo", impl.RootsTo(c.roots), rootsToBits(bitsOfPairs(c.roots)), c.roots...)
		if got := impl.RootsTo(c.roots); !slices.Equal(bitsOfPairs(got), bitsOfPairs(c.want)) {
			t.Errorf("RootsTo of %v: %v, not %v", c.roots, got, c.want)
		}
	}
}

// Roots in another order come out otherwise where something is rounded, so that the order is to be seen in the answer.
func TestPairRootsHangOnTheirOrder(t *testing.T) {
	g := formSource(428)
	turned := 0
	for range 100 {
		list := floatKinds[0].pairs(&g, 6)
		back := slices.Clone(list)
		slices.Reverse(back)
		if !slices.Equal(bitsOfPairs(impl.RootsTo(list)), bitsOfPairs(impl.RootsTo(back))) {
			turned++
		}
		holdPairs(t, "RootsTo", impl.RootsTo(list), rootsToBits(bitsOfPairs(list)), list...)
	}
	if turned < 80 {
		t.Errorf("only %d polynomials hang on the order of their roots", turned)
	}
}

func TestPairPolynomialOfRootsIsNoughtAtThem(t *testing.T) {
	g := formSource(429)
	for _, count := range []int{1, 2, 3, 4, 5, 8} {
		for range 400 {
			roots := smallPairs(&g, 9, count)
			poly := impl.RootsTo(roots)
			if len(poly) != count+1 {
				t.Fatalf("%d roots make %d numbers", count, len(poly))
			}
			for _, w := range roots {
				if got := impl.PolyPair(poly, w); !impl.Equal(got, impl.Pair{}) {
					t.Errorf("the polynomial %v of %v is %v at %v", poly, roots, got, w)
				}
			}
			elsewhere := pairOf(10, 10)
			want := pairOf(1, 0)
			for _, w := range roots {
				want = impl.MulPair(want, impl.SubPair(elsewhere, w))
			}
			if got := impl.PolyPair(poly, elsewhere); !impl.Equal(got, want) {
				t.Errorf("the polynomial %v of %v is %v at %v, not %v", poly, roots, got, elsewhere, want)
			}
		}
	}
}

// As many roots as are taken; all numbers are whole, since the roots 1 and -1 cancel in twos.
func TestPairRootsAtMaxPairs(t *testing.T) {
	roots := slices.Repeat([]impl.Pair{pairOf(0, 0), pairOf(1, 0), pairOf(0, 0), pairOf(-1, 0)}, 4)
	roots = append(roots, slices.Repeat([]impl.Pair{pairOf(0, 0)}, impl.MaxPairs-1-len(roots))...)
	poly := impl.RootsTo(roots)
	if len(poly) != impl.MaxPairs || !impl.Equal(poly[impl.MaxPairs-1], pairOf(1, 0)) {
		t.Fatalf("%d roots make %v", len(roots), poly)
	}
	holdPairs(t, "RootsTo", poly, rootsToBits(bitsOfPairs(roots)))
	for _, w := range roots {
		if got := impl.PolyPair(poly, w); !impl.Equal(got, impl.Pair{}) {
			t.Errorf("the polynomial is %v at %v", got, w)
		}
	}
}
