package tests

import (
	"math"
	"math/big"
	"slices"
	"testing"

	"loop.example/g00043/impl"
)

// The oracle of fixed point: numbers without an end, and of the whole numbers about a quotient that one is taken which the rule's words choose.

var cuts = []int{impl.CutDown, impl.CutZero, impl.CutNear, impl.CutEven}

var noCuts = []int{0, 5, -1, 6, 1 << 32, 1<<32 + 1, math.MaxInt, math.MinInt}

func bigOf(x int) *big.Int { return big.NewInt(int64(x)) }

func stepOf(by int) *big.Int { return new(big.Int).Lsh(bigOf(1), uint(by)) }

// around are three whole numbers, in order, among which those beside a by b are.
func around(a, b *big.Int) []*big.Int {
	middle := new(big.Int).Quo(a, b)
	return []*big.Int{new(big.Int).Sub(middle, bigOf(1)), middle, new(big.Int).Add(middle, bigOf(1))}
}

// away is how far q times b is off a.
func away(a, b, q *big.Int) *big.Int {
	off := new(big.Int).Mul(q, b)
	return off.Abs(off.Sub(a, off))
}

// nearestOf takes of two as near the even one, or the greater one.
func nearestOf(a, b *big.Int, even bool) *big.Int {
	list := around(a, b)
	best := list[0]
	for _, q := range list[1:] {
		c := away(a, b, q).Cmp(away(a, b, best))
		if c < 0 || c == 0 && (!even || q.Bit(0) == 0) {
			best = q
		}
	}
	return best
}

func lowerOf(a, b *big.Int) *big.Int {
	list := around(a, b)
	best := list[0]
	for _, q := range list[1:] {
		if new(big.Int).Mul(q, b).Cmp(a) <= 0 {
			best = q
		}
	}
	return best
}

// cutBig cuts the size alone off for CutZero.
func cutBig(x *big.Int, by int, cut int) *big.Int {
	switch cut {
	case impl.CutDown:
		return lowerOf(x, stepOf(by))
	case impl.CutZero:
		size := lowerOf(new(big.Int).Abs(x), stepOf(by))
		return size.Mul(size, bigOf(x.Sign()))
	case impl.CutNear:
		return nearestOf(x, stepOf(by), false)
	}
	return nearestOf(x, stepOf(by), true)
}

func lowEnd(bits int) *big.Int { return new(big.Int).Neg(stepOf(bits - 1)) }

func highEnd(bits int) *big.Int { return new(big.Int).Sub(stepOf(bits-1), bigOf(1)) }

func clipBig(x *big.Int, bits int) *big.Int {
	if x.Cmp(lowEnd(bits)) < 0 {
		return lowEnd(bits)
	}
	if x.Cmp(highEnd(bits)) > 0 {
		return highEnd(bits)
	}
	return x
}

func mulBig(a, b int, frac, bits, cut int) *big.Int {
	return clipBig(cutBig(new(big.Int).Mul(bigOf(a), bigOf(b)), frac, cut), bits)
}

func dotBig(a, b []int, frac, bits, cut int, each bool) *big.Int {
	sum := new(big.Int)
	for i := range a {
		if each {
			sum = clipBig(new(big.Int).Add(sum, mulBig(a[i], b[i], frac, bits, cut)), bits)
		} else {
			sum.Add(sum, new(big.Int).Mul(bigOf(a[i]), bigOf(b[i])))
		}
	}
	if each {
		return sum
	}
	return clipBig(cutBig(sum, frac, cut), bits)
}

func sumOfInts(list []int) int {
	sum := 0
	for _, x := range list {
		sum += x
	}
	return sum
}

// shapeBig knows no e: what is not told yet is all that came in, less all that was told.
func shapeBig(list []int, by int) []int {
	told := []int{}
	for i := range list {
		open := sumOfInts(list[:i+1]) - sumOfInts(told)<<by
		told = append(told, int(nearestOf(bigOf(open), stepOf(by), false).Int64()))
	}
	return told
}

func holdBig(t *testing.T, what string, got int, want *big.Int, of ...any) {
	t.Helper()
	if bigOf(got).Cmp(want) != 0 {
		t.Errorf("%s of %v is %d, not %v", what, of, got, want)
	}
}

func holdSignal(t *testing.T, what string, got []int, ok bool, want []int) {
	t.Helper()
	if !ok || !slices.Equal(got, want) {
		t.Errorf("%s is %v %v, not %v", what, got, ok, want)
	}
}

func noSignal(t *testing.T, what string, got []int, ok bool) {
	t.Helper()
	if ok || len(got) != 0 {
		t.Errorf("%s is not refused: %v %v", what, got, ok)
	}
}

// within gives numbers in -most .. most.
func (g *formSource) within(most int) int { return int(g.next()%(2*uint64(most)+1)) - most }

// ofAnySize gives numbers in -most .. most, as many small ones as great ones.
func (g *formSource) ofAnySize(most int) int { return g.within(most) >> (g.next() % 64) }

// word gives words of so many bits, often the ends.
func (g *formSource) word(bits int) int {
	low, high := -1<<(bits-1), 1<<(bits-1)-1
	switch g.next() % 8 {
	case 0:
		return low
	case 1:
		return high
	}
	return low + int(g.next()%(1<<bits))
}

func (g *formSource) words(bits int, count int) []int {
	list := make([]int, 0, count)
	for range count {
		list = append(list, g.word(bits))
	}
	return list
}

func (g *formSource) signal(most int, count int) []int {
	list := make([]int, 0, count)
	for range count {
		list = append(list, g.within(most))
	}
	return list
}

// noSignals are too long, or have a number that is no sample at the beginning, at the end or between; of some of these the sums, or the differences, would all be samples.
func noSignals() [][]int {
	const beyond = impl.MaxSample + 1
	lists := [][]int{
		make([]int, impl.MaxSignal+1), make([]int, impl.MaxSignal+2), make([]int, 5000),
		{-1, beyond}, {1, -beyond}, {-5, beyond, 0}, {-impl.MaxSample, beyond}, {impl.MaxSample, -beyond}, {5, beyond}, {-5, -beyond}, {impl.MaxSample, beyond}, {-impl.MaxSample, -beyond, -impl.MaxSample},
	}
	for _, bad := range []int{impl.MaxSample + 1, -impl.MaxSample - 1, 1 << 32, math.MaxInt, math.MinInt, math.MinInt + 1} {
		lists = append(lists, []int{bad}, []int{bad, 0, 0}, []int{0, bad, 0}, []int{0, 0, bad})
		full := make([]int, impl.MaxSignal)
		full[impl.MaxSignal-1] = bad
		lists = append(lists, full)
	}
	return lists
}

// untouchedInts calls with a piece of a longer list, and tells whether list or rest have changed.
func untouchedInts(t *testing.T, what string, list []int, call func(list []int)) {
	t.Helper()
	room := append(slices.Clone(list), math.MinInt, 7, math.MaxInt)
	ahead := slices.Clone(room)
	call(room[:len(list)])
	if !slices.Equal(room, ahead) {
		t.Errorf("%s has written into its argument: %v", what, room)
	}
}
