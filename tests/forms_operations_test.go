package tests

import (
	"math"
	"testing"

	"loop.example/g00043/impl"
)

// tryPair holds all operations on two numbers against the oracle.
func tryPair(t *testing.T, s formShape, a, b uint64) {
	t.Helper()
	list := []uint64{a, b}
	agree(t, "Add", s, s.add(a, b), list, func(m int) (uint64, int) { return impl.Add(s.form, m, a, b) })
	agree(t, "Sub", s, s.sub(a, b), list, func(m int) (uint64, int) { return impl.Sub(s.form, m, a, b) })
	agree(t, "Mul", s, s.mul(a, b), list, func(m int) (uint64, int) { return impl.Mul(s.form, m, a, b) })
	agree(t, "Div", s, s.div(a, b), list, func(m int) (uint64, int) { return impl.Div(s.form, m, a, b) })
}

func TestFormOperationsAtEdges(t *testing.T) {
	t.Parallel()
	for _, s := range formShapes {
		for _, a := range s.edges() {
			for _, b := range s.edges() {
				tryPair(t, s, a, b)
			}
		}
	}
}

func TestFormOperationsAtMany(t *testing.T) {
	t.Parallel()
	g := formSource(1)
	for _, s := range formShapes {
		for range 2000 {
			tryPair(t, s, g.bits(s), g.bits(s))
		}
	}
}

func tryTriple(t *testing.T, s formShape, a, b, c uint64) {
	t.Helper()
	agree(t, "Fma", s, s.fma(a, b, c), []uint64{a, b, c}, func(m int) (uint64, int) { return impl.Fma(s.form, m, a, b, c) })
}

func TestFormFmaAtEdges(t *testing.T) {
	t.Parallel()
	for _, s := range formShapes {
		for _, a := range s.fewEdges() {
			for _, b := range s.fewEdges() {
				for _, c := range s.fewEdges() {
					tryTriple(t, s, a, b, c)
				}
			}
		}
	}
}

// Where c is near the product's opposite, all that is left is what a rounded product would have lost.
func TestFormFmaAtMany(t *testing.T) {
	t.Parallel()
	g := formSource(2)
	for _, s := range formShapes {
		for range 2000 {
			a, b := g.bits(s), g.bits(s)
			tryTriple(t, s, a, b, g.bits(s))
			if p, _ := impl.Mul(s.form, impl.NearEven, a, b); s.isFinite(p) {
				tryTriple(t, s, a, b, s.opposite(p))
				tryTriple(t, s, a, b, s.opposite(p)^1)
			}
		}
	}
}

// inverse is the number that times an odd a is 1 modulo 2^64: each turn doubles the bits that are right.
func inverse(a uint64) uint64 {
	x := a
	for range 6 {
		x *= 2 - a*x
	}
	return x
}

// The lowest bits of a product and of c together come to half a step of the sum, or one beside it.
func TestFormFmaHalves(t *testing.T) {
	t.Parallel()
	g := formSource(7)
	for _, s := range formShapes {
		normal := s.normal()
		scaled := func(man uint64, exp int) uint64 {
			bits, _ := impl.Pack(s.form, impl.NearEven, impl.Num{Kind: impl.KindFinite, Exp: exp, Man: man})
			return bits
		}
		for range 2000 {
			man := g.next()%normal | normal | 1
			lack := g.next()%normal>>(g.next()%uint64(s.precision-1)) + 2
			other := (normal - lack) * inverse(man) % (2 * normal)
			if other == 0 {
				continue
			}
			a, b := scaled(man, -s.precision), scaled(other, -s.precision)
			for _, added := range []uint64{lack - 1, lack, lack + 1} {
				c := scaled(added, -2*s.precision)
				tryTriple(t, s, a, b, c)
				tryTriple(t, s, s.opposite(a), b, s.opposite(c))
			}
		}
	}
}

func TestFormSqrt(t *testing.T) {
	t.Parallel()
	g := formSource(3)
	for _, s := range formShapes {
		list := s.edges()
		for range 2000 {
			list = append(list, g.bits(s)&^s.sign())
		}
		for _, a := range list {
			agree(t, "Sqrt", s, s.sqrt(a), []uint64{a}, func(m int) (uint64, int) { return impl.Sqrt(s.form, m, a) })
		}
	}
}

func TestFormSqrtOfAllHalves(t *testing.T) {
	t.Parallel()
	s := formShapes[0]
	for a := uint64(0); a < 1<<16; a++ {
		agree(t, "Sqrt", s, s.sqrt(a), []uint64{a}, func(m int) (uint64, int) { return impl.Sqrt(s.form, m, a) })
	}
}

func TestFormConvert(t *testing.T) {
	t.Parallel()
	g := formSource(4)
	for _, from := range formShapes {
		list := from.edges()
		for range 1000 {
			list = append(list, g.bits(from))
		}
		for _, to := range formShapes {
			for _, a := range list {
				agree(t, "Convert", to, from.convert(to, a), []uint64{a}, func(m int) (uint64, int) {
					return impl.Convert(from.form, to.form, m, a)
				})
			}
		}
	}
}

// Numbers half way between two neighbours of a lesser form, the even one above or below, and what lies just beside them.
func TestFormConvertHalves(t *testing.T) {
	t.Parallel()
	half, double := formShapes[0], formShapes[2]
	for x := uint64(0); x < half.infinity(); x += 3 {
		low, _ := impl.Convert(impl.Half, impl.Double, impl.NearEven, x)
		high := math.Float64bits(65536)
		if x+1 < half.infinity() {
			high, _ = impl.Convert(impl.Half, impl.Double, impl.NearEven, x+1)
		}
		middle := math.Float64bits((math.Float64frombits(low) + math.Float64frombits(high)) / 2)
		for _, a := range []uint64{middle - 1, middle, middle + 1, double.opposite(middle)} {
			agree(t, "Convert", half, double.convert(half, a), []uint64{a}, func(m int) (uint64, int) {
				return impl.Convert(impl.Double, impl.Half, m, a)
			})
		}
	}
}

// tryPack holds Pack of a finite number against the oracle.
func tryPack(t *testing.T, s formShape, n impl.Num) {
	t.Helper()
	v := timesPower(n.Man, n.Exp)
	if n.Neg {
		v.Neg(v)
	}
	agree(t, "Pack", s, s.roundValue(v), []uint64{n.Man, uint64(n.Exp)}, func(m int) (uint64, int) { return impl.Pack(s.form, m, n) })
}

func TestFormPackAtExponents(t *testing.T) {
	t.Parallel()
	for _, s := range formShapes {
		least := 2 - s.top - s.precision
		for _, man := range []uint64{1, 2, 3, 4, 5, 6, 1 << 63, 1<<63 + 1, math.MaxUint64, math.MaxUint64 - 1, math.MaxUint64 - 1<<11 + 1, math.MaxUint64 - 1<<10 + 1, 3 << 62} {
			for _, at := range []int{least, 1 - s.top, 0, s.top} {
				for off := -70; off <= 70; off++ {
					tryPack(t, s, impl.Num{Kind: impl.KindFinite, Exp: at + off, Man: man})
					tryPack(t, s, impl.Num{Kind: impl.KindFinite, Exp: at + off, Man: man, Neg: true})
				}
			}
		}
	}
}

func TestFormPackAtLimits(t *testing.T) {
	t.Parallel()
	for _, s := range formShapes {
		for _, man := range []uint64{1, 6, 1 << 63, math.MaxUint64} {
			for _, exp := range []int{-impl.MaxExp, -impl.MaxExp + 1, impl.MaxExp - 1, impl.MaxExp} {
				tryPack(t, s, impl.Num{Kind: impl.KindFinite, Exp: exp, Man: man})
				tryPack(t, s, impl.Num{Kind: impl.KindFinite, Exp: exp, Man: man, Neg: true})
			}
		}
	}
}

func TestFormPackAtMany(t *testing.T) {
	t.Parallel()
	g := formSource(5)
	for _, s := range formShapes {
		for range 3000 {
			man := g.next() >> (g.next() % 64) << (g.next() % 16)
			if man == 0 {
				man = 1
			}
			span := 2*s.top + 2*s.precision + 40
			tryPack(t, s, impl.Num{Kind: impl.KindFinite, Neg: man&2 != 0, Exp: int(g.next()%uint64(span)) - span*2/3, Man: man})
		}
	}
}

// The machine's own numbers, which a much longer row can be held against.
func TestFormOperationsOfTheMachine(t *testing.T) {
	t.Parallel()
	g := formSource(6)
	s := formShapes[2]
	same := func(name string, got uint64, x float64, list ...uint64) {
		want := math.Float64bits(x)
		if x != x {
			want = s.plain()
		}
		if got != want {
			t.Errorf("%s of %x: %x, not %x", name, list, got, want)
		}
	}
	for range 100000 {
		a, b, c := g.bits(s), g.bits(s), g.bits(s)
		x, y, z := math.Float64frombits(a), math.Float64frombits(b), math.Float64frombits(c)
		got, _ := impl.Add(impl.Double, impl.NearEven, a, b)
		same("Add", got, x+y, a, b)
		got, _ = impl.Sub(impl.Double, impl.NearEven, a, b)
		same("Sub", got, x-y, a, b)
		got, _ = impl.Mul(impl.Double, impl.NearEven, a, b)
		same("Mul", got, x*y, a, b)
		got, _ = impl.Div(impl.Double, impl.NearEven, a, b)
		same("Div", got, x/y, a, b)
		got, _ = impl.Sqrt(impl.Double, impl.NearEven, a)
		same("Sqrt", got, math.Sqrt(x), a)
		got, _ = impl.Fma(impl.Double, impl.NearEven, a, b, c)
		same("Fma", got, math.FMA(x, y, z), a, b, c)
	}
}
