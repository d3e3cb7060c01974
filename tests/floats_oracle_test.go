package tests

import (
	"math"
	"slices"
	"testing"

	"loop.example/g00043/impl"
)

// This file works chapter 3 out on bits: each operation is that of chapter 1 in the form Double by NearEven, one after the other.

var double = formShapes[2]

func addBits(a, b uint64) uint64 { return doubleBits(impl.Add(impl.Double, impl.NearEven, a, b)) }
func subBits(a, b uint64) uint64 { return doubleBits(impl.Sub(impl.Double, impl.NearEven, a, b)) }
func mulBits(a, b uint64) uint64 { return doubleBits(impl.Mul(impl.Double, impl.NearEven, a, b)) }

func doubleBits(bits uint64, _ int) uint64 { return bits }

// bitsOf takes all NaNs for one; it does not ask ToBits.
func bitsOf(x float64) uint64 {
	if x != x {
		return double.plain()
	}
	return math.Float64bits(x)
}

func allBits(list []float64) []uint64 {
	bits := make([]uint64, 0, len(list))
	for _, x := range list {
		bits = append(bits, bitsOf(x))
	}
	return bits
}

// hold compares a float64 with bits; 0 and -0 are told apart.
func hold(t *testing.T, what string, got float64, want uint64, of ...float64) {
	t.Helper()
	if bitsOf(got) != want {
		t.Errorf("%s of %v: %v (%#x), not %v (%#x)", what, of, got, bitsOf(got), math.Float64frombits(want), want)
	}
}

func sumOfBits(list []uint64) uint64 {
	sum := uint64(0)
	for _, x := range list {
		sum = addBits(sum, x)
	}
	return sum
}

func pairSumOfBits(list []uint64) uint64 {
	switch len(list) {
	case 0:
		return 0
	case 1:
		return list[0]
	}
	first := (len(list) - len(list)%2) / 2
	return addBits(pairSumOfBits(list[:first]), pairSumOfBits(list[first:]))
}

func careSumOfBits(list []uint64) uint64 {
	s, c := uint64(0), uint64(0)
	for _, x := range list {
		y := subBits(x, c)
		t := addBits(s, y)
		c = subBits(subBits(t, s), y)
		s = t
	}
	return s
}

func twoSumOfBits(a, b uint64) (uint64, uint64) {
	s := addBits(a, b)
	v := subBits(s, a)
	return s, addBits(subBits(a, subBits(s, v)), subBits(b, v))
}

func dotOfBits(a, b []uint64) uint64 {
	sum := uint64(0)
	for i := range a {
		sum = addBits(sum, mulBits(a[i], b[i]))
	}
	return sum
}

func hornerOfBits(list []uint64, x uint64) uint64 {
	if len(list) == 0 {
		return 0
	}
	value := list[len(list)-1]
	for i := len(list) - 2; i >= 0; i-- {
		value = addBits(mulBits(value, x), list[i])
	}
	return value
}

// extremeOfBits is the last one by Order, in that way (1 for the greatest, -1 for the least), or the plain NaN.
func extremeOfBits(list []uint64, way int) uint64 {
	if len(list) == 0 {
		return 0
	}
	best := list[0]
	for _, x := range list {
		if double.isNan(x) {
			return double.plain()
		}
		if impl.Order(impl.Double, x, best) == way {
			best = x
		}
	}
	return best
}

// A floatKind makes lists of one kind: sums of some never leave the finite numbers, of others they do.
type floatKind struct {
	name string
	one  func(g *formSource) float64
}

var floatKinds = []floatKind{
	{"near 1", func(g *formSource) float64 {
		return math.Ldexp(float64(int64(g.next())), int(g.next()%8)-66)
	}},
	{"far apart", func(g *formSource) float64 {
		return math.Ldexp(float64(int64(g.next())), int(g.next()%120)-120)
	}},
	{"whole", func(g *formSource) float64 { return float64(int64(g.next()) >> (8 + g.next()%50)) }},
	{"below normal", func(g *formSource) float64 {
		return math.Float64frombits(g.next()&(1<<63) | g.next()>>(10+g.next()%50))
	}},
	{"at overflow", func(g *formSource) float64 {
		return math.Ldexp(float64(int64(g.next())), 961-int(g.next()%4))
	}},
	{"noughts", func(g *formSource) float64 { return math.Float64frombits(g.next() << 63) }},
	{"edges", func(g *formSource) float64 {
		edges := double.edges()
		return math.Float64frombits(edges[g.next()%uint64(len(edges))])
	}},
	{"any", func(g *formSource) float64 { return math.Float64frombits(g.bits(double)) }},
}

func (k floatKind) list(g *formSource, count int) []float64 {
	list := make([]float64, 0, count)
	for range count {
		list = append(list, k.one(g))
	}
	return list
}

// floatCounts are lengths of lists: none, one, odd and even ones, all that halve evenly and not, and the greatest two.
var floatCounts = []int{0, 1, 2, 3, 4, 5, 6, 7, 8, 9, 12, 13, 31, 32, 33, 100, 127, 128, 129, impl.MaxFloats - 1, impl.MaxFloats}

// manyLists calls with lists of each kind and length.
func manyLists(seed uint64, count int, call func(kind string, list []float64)) {
	g := formSource(seed)
	for _, k := range floatKinds {
		for _, n := range floatCounts {
			for range count {
				call(k.name, k.list(&g, n))
			}
		}
	}
}

// untouched calls with a piece of a longer list, behind which there is a NaN, and tells whether list or rest have changed.
func untouched(t *testing.T, what string, list []float64, call func(list []float64)) {
	t.Helper()
	room := append(slices.Clone(list), math.NaN(), 7, math.Inf(-1))
	ahead := rawBits(room)
	call(room[:len(list)])
	if !slices.Equal(rawBits(room), ahead) {
		t.Errorf("%s has written into its argument: %v", what, room)
	}
}

// rawBits tells NaNs apart.
func rawBits(list []float64) []uint64 {
	bits := make([]uint64, 0, len(list))
	for _, x := range list {
		bits = append(bits, math.Float64bits(x))
	}
	return bits
}
