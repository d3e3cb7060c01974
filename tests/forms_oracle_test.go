package tests

import (
	"math/big"
	"slices"
	"testing"

	"loop.example/g00043/impl"
)

// This file works chapter 1 out a second time, slowly and by its words: sizes are exact fractions, and a rounding looks for the two numbers of the form between which a size lies.

type formShape struct {
	form, width, precision, top int
}

var formShapes = []formShape{
	{impl.Half, 16, 11, 15},
	{impl.Single, 32, 24, 127},
	{impl.Double, 64, 53, 1023},
}

var formModes = []int{impl.NearEven, impl.NearAway, impl.ToZero, impl.ToUp, impl.ToDown}

func (s formShape) sign() uint64     { return 1 << (s.width - 1) }
func (s formShape) infinity() uint64 { return uint64(2*s.top+1) << (s.precision - 1) }
func (s formShape) quiet() uint64    { return 1 << (s.precision - 2) }
func (s formShape) plain() uint64    { return s.infinity() | s.quiet() }
func (s formShape) one() uint64      { return uint64(s.top) << (s.precision - 1) }
func (s formShape) normal() uint64   { return 1 << (s.precision - 1) }
func (s formShape) all() uint64      { return s.sign() | (s.sign() - 1) }

func (s formShape) isNan(x uint64) bool      { return x&^s.sign() > s.infinity() }
func (s formShape) isSignal(x uint64) bool   { return s.isNan(x) && x&s.quiet() == 0 }
func (s formShape) isInf(x uint64) bool      { return x&^s.sign() == s.infinity() }
func (s formShape) isZero(x uint64) bool     { return x&^s.sign() == 0 }
func (s formShape) isNeg(x uint64) bool      { return x&s.sign() != 0 }
func (s formShape) zero(neg bool) uint64     { return s.signed(neg, 0) }
func (s formShape) inf(neg bool) uint64      { return s.signed(neg, s.infinity()) }
func (s formShape) isFinite(x uint64) bool   { return x&^s.sign() < s.infinity() }
func (s formShape) opposite(x uint64) uint64 { return x ^ s.sign() }

func (s formShape) signed(neg bool, x uint64) uint64 {
	if neg {
		return x | s.sign()
	}
	return x
}

// timesPower is man times 2^k.
func timesPower(man uint64, k int) *big.Rat {
	whole := new(big.Int).SetUint64(man)
	if k < 0 {
		return new(big.Rat).SetFrac(whole, new(big.Int).Lsh(big.NewInt(1), uint(-k)))
	}
	return new(big.Rat).SetInt(whole.Lsh(whole, uint(k)))
}

// size is what bits without a sign are; infinity's bits are what they would be if exponents went on.
func (s formShape) size(x uint64) *big.Rat {
	exponent := int(x >> (s.precision - 1))
	fraction := x & (1<<(s.precision-1) - 1)
	man, unit := fraction, 2-s.top-s.precision
	if exponent > 0 {
		man, unit = 1<<(s.precision-1)+fraction, exponent-s.top-s.precision+1
	}
	return timesPower(man, unit)
}

func (s formShape) value(x uint64) *big.Rat {
	r := s.size(x &^ s.sign())
	if s.isNeg(x) {
		r.Neg(r)
	}
	return r
}

// A formAnswer has the bits and flags for each of formModes.
type formAnswer [5]struct {
	bits  uint64
	flags int
}

func sameAnswer(bits uint64, flags int) formAnswer {
	var a formAnswer
	for i := range a {
		a[i].bits, a[i].flags = bits, flags
	}
	return a
}

// round gives all five roundings of a size above 0, of which hold tells whether a fraction is below it (-1), it, or above it.
func (s formShape) round(neg bool, hold func(*big.Rat) int) formAnswer {
	low, high := uint64(0), s.infinity()
	if hold(s.size(high)) <= 0 {
		return s.overflows(neg)
	}
	for high-low > 1 {
		if mid := low + (high-low)/2; hold(s.size(mid)) <= 0 {
			low = mid
		} else {
			high = mid
		}
	}
	if hold(s.size(low)) == 0 {
		return sameAnswer(s.signed(neg, low), 0)
	}
	middle := new(big.Rat).Add(s.size(low), s.size(high))
	half := hold(middle.Mul(middle, big.NewRat(1, 2)))
	near := low
	if half < 0 || half == 0 && high&1 == 0 {
		near = high
	}
	away := low
	if half <= 0 {
		away = high
	}
	up, down := high, low
	if neg {
		up, down = low, high
	}
	flags := impl.FlagInexact
	if hold(timesPower(1, 1-s.top)) > 0 {
		flags += impl.FlagUnder
	}
	over := s.overflows(neg)
	var a formAnswer
	for i, x := range []uint64{near, away, low, up, down} {
		a[i].bits, a[i].flags = s.signed(neg, x), flags
		if x == s.infinity() {
			a[i] = over[i]
		}
	}
	return a
}

func (s formShape) overflows(neg bool) formAnswer {
	great := s.infinity() - 1
	sizes := []uint64{s.infinity(), s.infinity(), great, s.infinity(), great}
	if neg {
		sizes[3], sizes[4] = sizes[4], sizes[3]
	}
	var a formAnswer
	for i, x := range sizes {
		a[i].bits, a[i].flags = s.signed(neg, x), impl.FlagOver+impl.FlagInexact
	}
	return a
}

// roundValue rounds a fraction that is not 0.
func (s formShape) roundValue(v *big.Rat) formAnswer {
	size := new(big.Rat).Abs(v)
	return s.round(v.Sign() < 0, func(x *big.Rat) int { return x.Cmp(size) })
}

func (s formShape) bad() formAnswer { return sameAnswer(s.plain(), impl.FlagBad) }

// nans answers where one of the list is a NaN.
func (s formShape) nans(list ...uint64) (formAnswer, bool) {
	if slices.ContainsFunc(list, s.isSignal) {
		return s.bad(), true
	}
	return sameAnswer(s.plain(), 0), slices.ContainsFunc(list, s.isNan)
}

// exactSum rounds the sum of two finite numbers with these signs.
func (s formShape) exactSum(x *big.Rat, xNeg bool, y *big.Rat, yNeg bool) formAnswer {
	v := new(big.Rat).Add(x, y)
	if v.Sign() != 0 {
		return s.roundValue(v)
	}
	if xNeg == yNeg {
		return sameAnswer(s.zero(xNeg), 0)
	}
	a := sameAnswer(0, 0)
	a[4].bits = s.sign()
	return a
}

func (s formShape) add(a, b uint64) formAnswer {
	if n, ok := s.nans(a, b); ok {
		return n
	}
	switch {
	case s.isInf(a) && s.isInf(b) && a != b:
		return s.bad()
	case s.isInf(a):
		return sameAnswer(a, 0)
	case s.isInf(b):
		return sameAnswer(b, 0)
	}
	return s.exactSum(s.value(a), s.isNeg(a), s.value(b), s.isNeg(b))
}

func (s formShape) sub(a, b uint64) formAnswer { return s.add(a, s.opposite(b)) }

func (s formShape) mul(a, b uint64) formAnswer {
	if n, ok := s.nans(a, b); ok {
		return n
	}
	neg := s.isNeg(a) != s.isNeg(b)
	switch {
	case s.isInf(a) && s.isZero(b) || s.isZero(a) && s.isInf(b):
		return s.bad()
	case s.isInf(a) || s.isInf(b):
		return sameAnswer(s.inf(neg), 0)
	case s.isZero(a) || s.isZero(b):
		return sameAnswer(s.zero(neg), 0)
	}
	return s.roundValue(new(big.Rat).Mul(s.value(a), s.value(b)))
}

func (s formShape) div(a, b uint64) formAnswer {
	if n, ok := s.nans(a, b); ok {
		return n
	}
	neg := s.isNeg(a) != s.isNeg(b)
	switch {
	case s.isInf(a) && s.isInf(b) || s.isZero(a) && s.isZero(b):
		return s.bad()
	case s.isInf(a):
		return sameAnswer(s.inf(neg), 0)
	case s.isZero(b):
		return sameAnswer(s.inf(neg), impl.FlagByZero)
	case s.isInf(b) || s.isZero(a):
		return sameAnswer(s.zero(neg), 0)
	}
	return s.roundValue(new(big.Rat).Quo(s.value(a), s.value(b)))
}

func (s formShape) fma(a, b, c uint64) formAnswer {
	if n, ok := s.nans(a, b, c); ok {
		return n
	}
	neg := s.isNeg(a) != s.isNeg(b)
	infinite := s.isInf(a) || s.isInf(b)
	switch {
	case infinite && (s.isZero(a) || s.isZero(b)):
		return s.bad()
	case infinite && s.isInf(c) && s.isNeg(c) != neg:
		return s.bad()
	case infinite:
		return sameAnswer(s.inf(neg), 0)
	case s.isInf(c):
		return sameAnswer(c, 0)
	}
	product := new(big.Rat).Mul(s.value(a), s.value(b))
	return s.exactSum(product, neg, s.value(c), s.isNeg(c))
}

func (s formShape) sqrt(a uint64) formAnswer {
	if n, ok := s.nans(a); ok {
		return n
	}
	switch {
	case s.isZero(a):
		return sameAnswer(a, 0)
	case s.isNeg(a):
		return s.bad()
	case s.isInf(a):
		return sameAnswer(a, 0)
	}
	v := s.value(a)
	return s.round(false, func(x *big.Rat) int { return new(big.Rat).Mul(x, x).Cmp(v) })
}

func (s formShape) convert(to formShape, a uint64) formAnswer {
	switch {
	case s.isSignal(a):
		return to.bad()
	case s.isNan(a):
		return sameAnswer(to.plain(), 0)
	case s.isInf(a):
		return sameAnswer(to.inf(s.isNeg(a)), 0)
	case s.isZero(a):
		return sameAnswer(to.zero(s.isNeg(a)), 0)
	}
	return to.roundValue(s.value(a))
}

// A formSource gives numbers that look like chance and are the same at each run.
type formSource uint64

func (g *formSource) next() uint64 {
	*g += 0x9E3779B97F4A7C15
	z := uint64(*g)
	z = (z ^ z>>30) * 0xBF58476D1CE4E5B9
	z = (z ^ z>>27) * 0x94D049BB133111EB
	return z ^ z>>31
}

// bits gives bits of the form; of each eight some with few bits set, some near 1, some near the ends.
func (g *formSource) bits(s formShape) uint64 {
	x, kind := g.next()&s.all(), g.next()%8
	fraction := x & (s.normal() - 1)
	sign := x & s.sign()
	switch kind {
	case 0, 1:
		return sign | (uint64(s.top-4)+g.next()%8)<<(s.precision-1) | fraction
	case 2:
		return sign | (uint64(s.top-s.precision)+g.next()%uint64(2*s.precision))%uint64(2*s.top)<<(s.precision-1) | fraction&g.next()&g.next()&g.next()
	case 3:
		return sign | fraction
	case 4:
		return sign | fraction>>(g.next()%uint64(s.precision-1))
	case 5:
		return sign | (s.infinity() - 1 - fraction&g.next()&g.next())
	case 6:
		return sign | x&^s.sign()&^(1<<(g.next()%uint64(s.precision))-1)
	}
	return x
}

// edges are the bits that the chapter names, or that stand beside them.
func (s formShape) edges() []uint64 {
	one := s.one()
	sizes := []uint64{
		0, 1, 2, 3, s.normal() - 1, s.normal(), s.normal() + 1, 2 * s.normal(),
		one - 1, one, one + 1, one + s.normal()/2, one + s.normal(), one + s.normal() + s.normal()/2,
		uint64(s.top/2) << (s.precision - 1), uint64(s.top+s.top/2+1) << (s.precision - 1), uint64(s.precision-1) << (s.precision - 1),
		s.infinity() - 2, s.infinity() - 1, s.infinity(), s.infinity() + 1, s.plain() - 1, s.plain(), s.sign() - 1,
	}
	var list []uint64
	for _, x := range sizes {
		list = append(list, x, x|s.sign())
	}
	return list
}

// fewEdges are enough of them for triples.
func (s formShape) fewEdges() []uint64 {
	sizes := []uint64{0, 1, s.normal(), s.one(), s.one() + 1, s.infinity() - 1, s.infinity(), s.infinity() + 1, s.plain()}
	var list []uint64
	for _, x := range sizes {
		list = append(list, x, x|s.sign())
	}
	return list
}

// agree holds an operation in all modes against what the oracle answers.
func agree(t *testing.T, name string, s formShape, want formAnswer, list []uint64, op func(mode int) (uint64, int)) {
	t.Helper()
	for i, mode := range formModes {
		if bits, flags := op(mode); bits != want[i].bits || flags != want[i].flags {
			t.Errorf("%s form %d mode %d of %x: %x flags %d, not %x flags %d", name, s.form, mode, list, bits, flags, want[i].bits, want[i].flags)
		}
	}
}
