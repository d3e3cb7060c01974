package tests

import (
	"math"
	"slices"
	"testing"

	"loop.example/g00043/impl"
)

// zeroPair asks for the zero value, in which no part is -0.
func zeroPair(t *testing.T, what string, got impl.Pair) {
	t.Helper()
	if math.Float64bits(got.Re) != 0 || math.Float64bits(got.Im) != 0 {
		t.Errorf("%s: %v", what, got)
	}
}

var pairSamples = []impl.Pair{
	pairOf(0, 0), pairOf(1, 1), pairOf(-1, math.Copysign(0, -1)), pairOf(math.Inf(1), 2), pairOf(3, math.Inf(-1)), pairOf(math.NaN(), math.NaN()),
}

func TestPairPowersThatAreNone(t *testing.T) {
	for _, a := range pairSamples {
		for _, n := range []int{-1, -2, -1000, 1001, 1002, 1024, 1 << 32, 1<<32 + 2, math.MaxInt, math.MinInt, math.MinInt + 1} {
			zeroPair(t, "PowPair to a number that is none", impl.PowPair(a, n))
		}
	}
	holdPair(t, "PowPair to 0", impl.PowPair(pairOf(1, 0), 0), onePair)
	holdPair(t, "PowPair to 1000", impl.PowPair(pairOf(1, 0), 1000), onePair)
}

func TestPairListsAtMaxPairs(t *testing.T) {
	ones := slices.Repeat([]impl.Pair{pairOf(1, -2)}, impl.MaxPairs+1)
	most := ones[:impl.MaxPairs]
	all := bitsOfPair(pairOf(impl.MaxPairs, -2*impl.MaxPairs))
	holdPair(t, "PolyPair at MaxPairs", impl.PolyPair(most, pairOf(1, 0)), all)
	for workers := 1; workers <= 16; workers++ {
		holdPair(t, "SumPairs at MaxPairs", impl.SumPairs(most, workers), all)
	}
	if got := impl.RootsTo(ones[:impl.MaxPairs-1]); len(got) != impl.MaxPairs {
		t.Errorf("RootsTo of MaxPairs - 1 has %d numbers", len(got))
	}
	if got := impl.RootsTo(most); len(got) != 0 {
		t.Errorf("RootsTo of MaxPairs has %d numbers", len(got))
	}
}

func TestPairListsThatAreTooLong(t *testing.T) {
	for _, p := range pairSamples {
		for _, count := range []int{impl.MaxPairs + 1, impl.MaxPairs + 2, 2 * impl.MaxPairs, 5000} {
			list := slices.Repeat([]impl.Pair{p}, count)
			for _, x := range pairSamples {
				zeroPair(t, "PolyPair of too many", impl.PolyPair(list, x))
			}
			for workers := -1; workers <= 18; workers++ {
				zeroPair(t, "SumPairs of too many", impl.SumPairs(list, workers))
			}
			if got := impl.RootsTo(list); len(got) != 0 {
				t.Errorf("RootsTo of %d: %v", count, got)
			}
		}
		if got := impl.RootsTo(slices.Repeat([]impl.Pair{p}, impl.MaxPairs)); len(got) != 0 {
			t.Errorf("RootsTo of MaxPairs: %v", got)
		}
	}
}

func TestPairWorkersThatAreNone(t *testing.T) {
	for _, p := range pairSamples {
		for _, count := range []int{0, 1, 20, impl.MaxPairs} {
			list := slices.Repeat([]impl.Pair{p}, count)
			for _, workers := range []int{0, -1, -16, 17, 18, 32, 1 << 40, math.MaxInt, math.MinInt} {
				zeroPair(t, "SumPairs by workers that are none", impl.SumPairs(list, workers))
			}
		}
	}
}

// Nothing is written into an argument, nor into the room behind it, of which nothing is read either.
func TestPairArgumentsStay(t *testing.T) {
	nan := math.Float64frombits(double.all())
	for _, list := range [][]impl.Pair{{}, {pairOf(3, -1)}, {pairOf(3, nan), pairOf(math.Copysign(0, -1), 2), pairOf(1, 1)}, {pairOf(1, 2), pairOf(3, 4), pairOf(5, 6), pairOf(7, 8)}} {
		bits := bitsOfPairs(list)
		untouchedPairs(t, "PolyPair", list, func(piece []impl.Pair) {
			holdPair(t, "PolyPair", impl.PolyPair(piece, pairOf(2, 1)), polyPairBits(bits, bitsOfPair(pairOf(2, 1))), list...)
		})
		untouchedPairs(t, "RootsTo", list, func(piece []impl.Pair) {
			roots := impl.RootsTo(piece)
			holdPairs(t, "RootsTo", roots, rootsToBits(bits), list...)
			for i := range roots {
				roots[i] = pairOf(-9, -9)
			}
			_ = append(roots, pairOf(-9, -9))
			holdPairs(t, "RootsTo, again,", impl.RootsTo(piece), rootsToBits(bits), list...)
		})
		for workers := 1; workers <= 16; workers++ {
			untouchedPairs(t, "SumPairs", list, func(piece []impl.Pair) {
				holdPair(t, "SumPairs", impl.SumPairs(piece, workers), sumPairsBits(bits, workers), list...)
			})
		}
	}
}
