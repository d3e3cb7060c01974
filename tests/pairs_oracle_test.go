package tests

import (
	"math"
	"slices"
	"testing"

	"loop.example/g00043/impl"
)

// This file works chapter 4 out on bits: each operation is that of chapter 1 in the form Double by NearEven, one after the other.

type pairBits struct{ re, im uint64 }

var onePair = pairBits{re: double.one()}

func pairOf(re, im float64) impl.Pair { return impl.Pair{Re: re, Im: im} }

func divBits(a, b uint64) uint64 { return doubleBits(impl.Div(impl.Double, impl.NearEven, a, b)) }

func bitsOfPair(p impl.Pair) pairBits { return pairBits{bitsOf(p.Re), bitsOf(p.Im)} }

func bitsOfPairs(list []impl.Pair) []pairBits {
	bits := make([]pairBits, 0, len(list))
	for _, p := range list {
		bits = append(bits, bitsOfPair(p))
	}
	return bits
}

func addPairBits(a, b pairBits) pairBits { return pairBits{addBits(a.re, b.re), addBits(a.im, b.im)} }
func subPairBits(a, b pairBits) pairBits { return pairBits{subBits(a.re, b.re), subBits(a.im, b.im)} }

func mulPairBits(a, b pairBits) pairBits {
	first, second := mulBits(a.re, b.re), mulBits(a.im, b.im)
	third, fourth := mulBits(a.re, b.im), mulBits(a.im, b.re)
	return pairBits{subBits(first, second), addBits(third, fourth)}
}

// barBits leaves a NaN the plain one, as all are one.
func barBits(a pairBits) pairBits {
	if double.isNan(a.im) {
		return a
	}
	return pairBits{a.re, double.opposite(a.im)}
}

func power2Bits(a pairBits) uint64 { return addBits(mulBits(a.re, a.re), mulBits(a.im, a.im)) }

func divPairBits(a, b pairBits) pairBits {
	d := power2Bits(b)
	n := mulPairBits(a, barBits(b))
	return pairBits{divBits(n.re, d), divBits(n.im, d)}
}

func equalBits(a, b pairBits) bool {
	return impl.Compare(impl.Double, a.re, b.re) == 0 && impl.Compare(impl.Double, a.im, b.im) == 0
}

func powPairBits(a pairBits, n int) pairBits {
	r, s := onePair, a
	for n > 0 {
		if n&1 == 1 {
			r = mulPairBits(r, s)
		}
		n >>= 1
		s = mulPairBits(s, s)
	}
	return r
}

func polyPairBits(list []pairBits, x pairBits) pairBits {
	if len(list) == 0 {
		return pairBits{}
	}
	value := list[len(list)-1]
	for i := len(list) - 2; i >= 0; i-- {
		value = addPairBits(mulPairBits(value, x), list[i])
	}
	return value
}

// rootsToBits goes from the highest power down in one list, where each number still finds the lower one as it was.
func rootsToBits(roots []pairBits) []pairBits {
	poly := []pairBits{onePair}
	for _, w := range roots {
		for k := len(poly) - 1; k >= 0; k-- {
			lower := pairBits{}
			if k > 0 {
				lower = poly[k-1]
			}
			poly[k] = subPairBits(lower, mulPairBits(w, poly[k]))
		}
		poly = append(poly, onePair)
	}
	return poly
}

func sumOfPairBits(list []pairBits) pairBits {
	sum := pairBits{}
	for _, p := range list {
		sum = addPairBits(sum, p)
	}
	return sum
}

// partsOf deals the list out, one after the other.
func partsOf(list []pairBits, workers int) [][]pairBits {
	parts := make([][]pairBits, workers)
	for i, p := range list {
		parts[i%workers] = append(parts[i%workers], p)
	}
	return parts
}

func sumPairsBits(list []pairBits, workers int) pairBits {
	sums := []pairBits{}
	for _, part := range partsOf(list, workers) {
		sums = append(sums, sumOfPairBits(part))
	}
	return sumOfPairBits(sums)
}

// holdPair compares both parts; 0 and -0 are told apart.
func holdPair(t *testing.T, what string, got impl.Pair, want pairBits, of ...impl.Pair) {
	t.Helper()
	if bitsOfPair(got) != want {
		t.Errorf("%s of %v: %v, not %v and %v", what, of, got, math.Float64frombits(want.re), math.Float64frombits(want.im))
	}
}

func holdPairs(t *testing.T, what string, got []impl.Pair, want []pairBits, of ...impl.Pair) {
	t.Helper()
	if !slices.Equal(bitsOfPairs(got), want) {
		t.Errorf("%s of %v: %v, not %x", what, of, got, want)
	}
}

func (k floatKind) pair(g *formSource) impl.Pair { return impl.Pair{Re: k.one(g), Im: k.one(g)} }

func (k floatKind) pairs(g *formSource, count int) []impl.Pair {
	list := make([]impl.Pair, 0, count)
	for range count {
		list = append(list, k.pair(g))
	}
	return list
}

// smallPair has two whole numbers of at most most in size.
func smallPair(g *formSource, most int) impl.Pair {
	one := func() float64 { return float64(int(g.next()%uint64(2*most+1)) - most) }
	return impl.Pair{Re: one(), Im: one()}
}

func smallPairs(g *formSource, most int, count int) []impl.Pair {
	list := make([]impl.Pair, 0, count)
	for range count {
		list = append(list, smallPair(g, most))
	}
	return list
}

// edgePairs are all pairs of the numbers at which an operation is of another kind.
func edgePairs() []impl.Pair {
	numbers := []float64{
		0, math.Copysign(0, -1), 1, -1, 3, 0x1p-1074, -0x1p-1074, 0x1p-1022, 1 + 0x1p-27,
		math.MaxFloat64, -math.MaxFloat64, math.Inf(1), math.Inf(-1), math.NaN(),
	}
	list := []impl.Pair{}
	for _, re := range numbers {
		for _, im := range numbers {
			list = append(list, impl.Pair{Re: re, Im: im})
		}
	}
	return list
}

// manyPairs calls with two of all kinds, and with two of edgePairs each.
func manyPairs(seed uint64, count int, call func(a, b impl.Pair)) {
	g := formSource(seed)
	for _, k := range floatKinds {
		for _, other := range floatKinds {
			for range count {
				call(k.pair(&g), other.pair(&g))
			}
		}
	}
	for _, a := range edgePairs() {
		for _, b := range edgePairs() {
			call(a, b)
		}
	}
}

var pairCounts = []int{0, 1, 2, 3, 4, 5, 15, 16, 17, 31, 33, 64, impl.MaxPairs - 1, impl.MaxPairs}

// manyPairLists calls with lists of each kind and length.
func manyPairLists(seed uint64, most int, call func(kind string, list []impl.Pair)) {
	g := formSource(seed)
	for _, k := range floatKinds {
		for _, n := range pairCounts {
			if n <= most {
				call(k.name, k.pairs(&g, n))
			}
		}
	}
}

// rawPairs tells NaNs apart.
func rawPairs(list []impl.Pair) []uint64 {
	bits := make([]uint64, 0, 2*len(list))
	for _, p := range list {
		bits = append(bits, math.Float64bits(p.Re), math.Float64bits(p.Im))
	}
	return bits
}

// untouchedPairs calls with a piece of a longer list, and tells whether list or rest have changed.
func untouchedPairs(t *testing.T, what string, list []impl.Pair, call func(list []impl.Pair)) {
	t.Helper()
	room := append(slices.Clone(list), impl.Pair{Re: math.NaN(), Im: 7}, impl.Pair{Re: math.Inf(-1), Im: math.NaN()})
	ahead := rawPairs(room)
	call(room[:len(list)])
	if !slices.Equal(rawPairs(room), ahead) {
		t.Errorf("%s has written into its argument: %v", what, room)
	}
}
