package tests

import (
	"testing"

	"loop.example/g00043/impl"
)

// The products of chapter 4 are each rounded; the functions here fuse one of two with the sum, to show where that would come out otherwise.

func fmaBits(a, b, c uint64) uint64 { return doubleBits(impl.Fma(impl.Double, impl.NearEven, a, b, c)) }

func minusBits(x uint64) uint64 { return double.opposite(x) }

// fusedRe has a.Re b.Re - a.Im b.Im with the first, then with the second product fused.
func fusedRe(a, b pairBits) [2]uint64 {
	return [2]uint64{
		fmaBits(a.re, b.re, minusBits(mulBits(a.im, b.im))),
		fmaBits(minusBits(a.im), b.im, mulBits(a.re, b.re)),
	}
}

func fusedIm(a, b pairBits) [2]uint64 {
	return [2]uint64{
		fmaBits(a.re, b.im, mulBits(a.im, b.re)),
		fmaBits(a.im, b.re, mulBits(a.re, b.im)),
	}
}

// fusedPower2 is the real part of a product with the Bar.
func fusedPower2(a pairBits) [2]uint64 { return fusedRe(a, barBits(a)) }

func neither(x uint64, others [2]uint64) bool { return others[0] != x && others[1] != x }

// The square of x is 1 + 2^-26 + 2^-54, whose last part is lost by its own rounding, and kept when it is fused.
func TestPairProductsAreNotFused(t *testing.T) {
	x := 1 + 0x1p-27
	for _, c := range []struct{ a, b, want impl.Pair }{
		{pairOf(x, x), pairOf(x, x), pairOf(0, 2+0x1p-25)},
		{pairOf(x, x), pairOf(-x, x), pairOf(-2-0x1p-25, 0)},
		{pairOf(x, -x), pairOf(x, x), pairOf(2+0x1p-25, 0)},
		{pairOf(x, 1+0x1p-26), pairOf(x, 1), pairOf(0, 2+0x1p-25)},
	} {
		a, b := bitsOfPair(c.a), bitsOfPair(c.b)
		if fusedRe(a, b)[0] == bitsOf(c.want.Re) && fusedIm(a, b)[0] == bitsOf(c.want.Im) {
			t.Errorf("%v and %v do not tell a product that is fused", c.a, c.b)
		}
		holdPair(t, "MulPair", impl.MulPair(c.a, c.b), bitsOfPair(c.want), c.a, c.b)
		holdPair(t, "MulPair", impl.MulPair(c.b, c.a), bitsOfPair(c.want), c.b, c.a)
	}
	holdPair(t, "PowPair", impl.PowPair(pairOf(x, x), 2), bitsOfPair(pairOf(0, 2+0x1p-25)))
	holdPair(t, "PolyPair", impl.PolyPair([]impl.Pair{{}, pairOf(x, x)}, pairOf(x, x)), bitsOfPair(pairOf(0, 2+0x1p-25)))
	holdPair(t, "DivPair", impl.DivPair(pairOf(x, x), pairOf(x, -x)), bitsOfPair(pairOf(0, 1)))
}

// A sum that a product goes into has two parts, each rounded ahead of it.
func TestPairSumsOfProductsAreNotFused(t *testing.T) {
	x := 1 + 0x1p-27
	square := 1 + 0x1p-26
	holdPair(t, "PolyPair", impl.PolyPair([]impl.Pair{{Re: -square}, {Re: x}}, impl.Pair{Re: x}), pairBits{})
	got := impl.RootsTo([]impl.Pair{{Re: -x}, {Re: x}})
	holdPair(t, "RootsTo, the lowest power,", got[0], bitsOfPair(impl.Pair{Re: -square}))
	got = impl.RootsTo([]impl.Pair{pairOf(x, x), pairOf(x, x)})
	holdPair(t, "RootsTo, the lowest power,", got[0], bitsOfPair(pairOf(0, 2*square)))
}

// Of many numbers near 1 each function is what it is with all products rounded, and enough would be otherwise fused.
func TestPairProductsOfManyAreNotFused(t *testing.T) {
	g := formSource(411)
	near := floatKinds[0]
	products, powers := 0, 0
	for range 5000 {
		a, b := near.pair(&g), near.pair(&g)
		x, y := bitsOfPair(a), bitsOfPair(b)
		product := mulPairBits(x, y)
		if neither(product.re, fusedRe(x, y)) || neither(product.im, fusedIm(x, y)) {
			products++
		}
		if neither(power2Bits(x), fusedPower2(x)) {
			powers++
		}
		holdPair(t, "MulPair", impl.MulPair(a, b), product, a, b)
		hold(t, "Power2", impl.Power2(a), power2Bits(x), a.Re, a.Im)
		holdPair(t, "DivPair", impl.DivPair(a, b), divPairBits(x, y), a, b)
	}
	if products < 50 || powers < 50 {
		t.Errorf("only %d products and %d powers tell one that is fused", products, powers)
	}
}
