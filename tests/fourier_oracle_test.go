package tests

import (
	"math"
	"slices"
	"testing"

	"loop.example/g00043/impl"
)

// The oracle of the transforms: each number of an outcome by itself, on bits, by the operations of chapter 1 one after the other; the turns come from the oracle of the waves.

const maxPairs = impl.MaxPairs

var halvedCounts = []int{1, 2, 4, 8, 16, 32, 64, 128}

var noHalvedCounts = []int{0, 3, 5, 6, 7, 9, 12, 63, 65, 96, 127, 129, 130, 192, 256, 257, 512, 1024}

var bothWays = []bool{false, true}

// turnBits makes the quotient by One by its exponent, so that nothing is divided.
func turnBits(step int) pairBits {
	by := func(x int64) uint64 { return bitsOf(math.Ldexp(float64(x), -30)) }
	return pairBits{by(cosineBig(bigOf(step)).Int64()), by(sineBig(bigOf(step)).Int64())}
}

// turnsBits has the turn of each step from 0 to 255, the other way that of its opposite.
func turnsBits(back bool) []pairBits {
	turns := []pairBits{}
	for step := range 256 {
		if !back {
			step = -step
		}
		turns = append(turns, turnBits(step))
	}
	return turns
}

func dividedBits(list []pairBits) []pairBits {
	n := bitsOf(float64(len(list)))
	divided := []pairBits{}
	for _, p := range list {
		divided = append(divided, pairBits{divBits(p.re, n), divBits(p.im, n)})
	}
	return divided
}

func fourierBits(list []pairBits, back bool) []pairBits {
	n, turns := len(list), turnsBits(back)
	outcome := []pairBits{}
	for k := range n {
		sum := pairBits{}
		for i, p := range list {
			sum = addPairBits(sum, mulPairBits(p, turns[i*k*(256/n)%256]))
		}
		outcome = append(outcome, sum)
	}
	if back {
		return dividedBits(outcome)
	}
	return outcome
}

// halvedBits is the k-th of those that stand stride apart from start on.
func halvedBits(list []pairBits, turns []pairBits, start, stride, k int) pairBits {
	n := len(list) / stride
	if n == 1 {
		return list[start]
	}
	place := k % (n / 2)
	even := halvedBits(list, turns, start, 2*stride, place)
	odd := halvedBits(list, turns, start+stride, 2*stride, place)
	t := mulPairBits(odd, turns[place*(256/n)])
	if k < n/2 {
		return addPairBits(even, t)
	}
	return subPairBits(even, t)
}

func fastBits(list []pairBits, back bool) []pairBits {
	turns := turnsBits(back)
	outcome := []pairBits{}
	for k := range list {
		outcome = append(outcome, halvedBits(list, turns, 0, 1, k))
	}
	if back {
		return dividedBits(outcome)
	}
	return outcome
}

func powersBits(list []pairBits) []uint64 {
	powers := []uint64{}
	for _, p := range list {
		powers = append(powers, power2Bits(p))
	}
	return powers
}

func averageBits(pieces [][]impl.Pair) []uint64 {
	means := []uint64{}
	for place := range pieces[0] {
		sum := uint64(0)
		for _, piece := range pieces {
			sum = addBits(sum, power2Bits(bitsOfPair(piece[place])))
		}
		means = append(means, divBits(sum, bitsOf(float64(len(pieces)))))
	}
	return means
}

// A transform is Fourier or Fast, beside what the oracle has for it.
type transform struct {
	name string
	call func(list []impl.Pair, back bool) ([]impl.Pair, bool)
	bits func(list []pairBits, back bool) []pairBits
}

var transforms = []transform{{"Fourier", impl.Fourier, fourierBits}, {"Fast", impl.Fast, fastBits}}

func wayName(back bool) string {
	if back {
		return ", back,"
	}
	return ""
}

func holdTransform(t *testing.T, what string, got []impl.Pair, ok bool, want []pairBits, of []impl.Pair) {
	t.Helper()
	if !ok || got == nil || len(got) != len(want) {
		t.Errorf("%s of %d pairs has %d and %v", what, len(of), len(got), ok)
		return
	}
	for k := range want {
		holdPair(t, what, got[k], want[k], of...)
	}
}

func (x transform) holds(t *testing.T, kind string, list []impl.Pair) {
	t.Helper()
	for _, back := range bothWays {
		got, ok := x.call(list, back)
		holdTransform(t, x.name+wayName(back)+" "+kind, got, ok, x.bits(bitsOfPairs(list), back), list)
	}
}

func holdFloats(t *testing.T, what string, got []float64, want []uint64) {
	t.Helper()
	if got == nil || !slices.Equal(allBits(got), want) {
		t.Errorf("%s: %v, not %x", what, got, want)
	}
}

func noPairs(t *testing.T, what string, got []impl.Pair, ok bool) {
	t.Helper()
	if got == nil || len(got) != 0 || ok {
		t.Errorf("%s is not refused: %d pairs, %v", what, len(got), ok)
	}
}

func noFloats(t *testing.T, what string, got []float64, ok bool) {
	t.Helper()
	if got == nil || len(got) != 0 || ok {
		t.Errorf("%s is not refused: %d numbers, %v", what, len(got), ok)
	}
}

func realPairs(list ...float64) []impl.Pair {
	pairs := []impl.Pair{}
	for _, x := range list {
		pairs = append(pairs, impl.Pair{Re: x})
	}
	return pairs
}

// lessThanOneOff holds whole outcomes against each other.
func lessThanOneOff(t *testing.T, what string, got, want []impl.Pair) {
	t.Helper()
	if len(got) != len(want) {
		t.Fatalf("%s: %d, not %d", what, len(got), len(want))
	}
	for k := range want {
		if !(math.Abs(got[k].Re-want[k].Re) < 1 && math.Abs(got[k].Im-want[k].Im) < 1) {
			t.Errorf("%s: at %d of %d %v, not %v", what, k, len(want), got[k], want[k])
		}
	}
}
