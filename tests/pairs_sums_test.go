package tests

import (
	"math"
	"slices"
	"sync"
	"testing"

	"loop.example/g00043/impl"
)

// Promise 6, of sums by workers: they do not change a sum.

func TestPairSumsByWorkersOfMany(t *testing.T) {
	manyPairLists(431, impl.MaxPairs, func(kind string, list []impl.Pair) {
		for workers := 1; workers <= 16; workers++ {
			holdPair(t, "SumPairs, "+kind, impl.SumPairs(list, workers), sumPairsBits(bitsOfPairs(list), workers), list...)
		}
	})
}

func TestPairSumsByWorkersOfSome(t *testing.T) {
	inf, nan, minus := math.Inf(1), math.NaN(), math.Copysign(0, -1)
	steps := []impl.Pair{pairOf(1e16, 0), pairOf(1, 0), pairOf(-1e16, 0), pairOf(1, 0)}
	for _, c := range []struct {
		list    []impl.Pair
		workers int
		want    impl.Pair
	}{
		{nil, 1, impl.Pair{}},
		{nil, 16, impl.Pair{}},
		{[]impl.Pair{}, 3, impl.Pair{}},
		{[]impl.Pair{pairOf(1, 2)}, 1, pairOf(1, 2)},
		{[]impl.Pair{pairOf(1, 2)}, 16, pairOf(1, 2)},
		{[]impl.Pair{pairOf(minus, minus)}, 1, pairOf(0, 0)},
		{[]impl.Pair{pairOf(minus, minus), pairOf(minus, minus)}, 2, pairOf(0, 0)},
		{steps, 1, pairOf(1, 0)},
		{steps, 2, pairOf(2, 0)},
		{steps, 3, pairOf(0, 0)},
		{steps, 4, pairOf(1, 0)},
		{steps, 5, pairOf(1, 0)},
		{steps, 16, pairOf(1, 0)},
		{[]impl.Pair{pairOf(0, 1e16), pairOf(0, 1), pairOf(0, -1e16)}, 1, pairOf(0, 0)},
		{[]impl.Pair{pairOf(0, 1e16), pairOf(0, 1), pairOf(0, -1e16)}, 2, pairOf(0, 1)},
		{[]impl.Pair{pairOf(inf, 1), pairOf(-inf, 2)}, 1, pairOf(nan, 3)},
		{[]impl.Pair{pairOf(inf, 1), pairOf(-inf, 2)}, 7, pairOf(nan, 3)},
		{[]impl.Pair{pairOf(1, nan), pairOf(2, 2)}, 2, pairOf(3, nan)},
		{[]impl.Pair{pairOf(math.MaxFloat64, 0), pairOf(math.MaxFloat64, 0), pairOf(-math.MaxFloat64, 0)}, 1, pairOf(inf, 0)},
		{[]impl.Pair{pairOf(math.MaxFloat64, 0), pairOf(math.MaxFloat64, 0), pairOf(-math.MaxFloat64, 0)}, 2, pairOf(math.MaxFloat64, 0)},
	} {
		holdPair(t, "SumPairs", impl.SumPairs(c.list, c.workers), bitsOfPair(c.want), c.list...)
	}
}

// Where nothing is rounded all numbers of workers tell one sum.
func TestPairSumsOfWholeNumbersDoNotHangOnWorkers(t *testing.T) {
	g := formSource(432)
	for _, count := range pairCounts {
		list := smallPairs(&g, 1000000, count)
		want := impl.Pair{}
		for _, p := range list {
			want = impl.AddPair(want, p)
		}
		for workers := 1; workers <= 16; workers++ {
			holdPair(t, "SumPairs", impl.SumPairs(list, workers), bitsOfPair(want), list...)
		}
	}
}

// sumOfPieces is what would come out if each part were a piece of the list that hangs together.
func sumOfPieces(list []pairBits, workers int) pairBits {
	sums := []pairBits{}
	for k := range workers {
		sums = append(sums, sumOfPairBits(list[len(list)*k/workers:len(list)*(k+1)/workers]))
	}
	return sumOfPairBits(sums)
}

// sumTurned is what would come out if the last part were done first, and the others behind it.
func sumTurned(list []pairBits, workers int) pairBits {
	sum := pairBits{}
	for _, part := range slices.Backward(partsOf(list, workers)) {
		sum = addPairBits(sum, sumOfPairBits(part))
	}
	return sum
}

// In these lists other parts and another order of them come out otherwise, so that both are to be seen in the answer.
func TestPairSumsHangOnTheirParts(t *testing.T) {
	g := formSource(433)
	for workers := 3; workers <= 16; workers++ {
		pieces, turned, single := 0, 0, 0
		for range 60 {
			list := floatKinds[1].pairs(&g, impl.MaxPairs)
			bits := bitsOfPairs(list)
			want := sumPairsBits(bits, workers)
			if want != sumOfPieces(bits, workers) {
				pieces++
			}
			if want != sumTurned(bits, workers) {
				turned++
			}
			if want != sumOfPairBits(bits) {
				single++
			}
			holdPair(t, "SumPairs", impl.SumPairs(list, workers), want, list...)
		}
		if pieces < 20 || turned < 20 || single < 20 {
			t.Errorf("by %d workers only %d, %d and %d of 60 sums hang on their parts", workers, pieces, turned, single)
		}
	}
}

func TestPairSumsAreTheSameAtEveryCall(t *testing.T) {
	g := formSource(434)
	list := floatKinds[1].pairs(&g, impl.MaxPairs)
	for workers := 1; workers <= 16; workers++ {
		want := sumPairsBits(bitsOfPairs(list), workers)
		for range 300 {
			holdPair(t, "SumPairs, again,", impl.SumPairs(list, workers), want)
		}
	}
}

func TestPairSumsAtTheSameTime(t *testing.T) {
	g := formSource(435)
	list := floatKinds[1].pairs(&g, impl.MaxPairs)
	var all sync.WaitGroup
	for call := range 200 {
		all.Go(func() {
			workers := 1 + call%16
			holdPair(t, "SumPairs, at one time with others,", impl.SumPairs(list, workers), sumPairsBits(bitsOfPairs(list), workers))
		})
	}
	all.Wait()
}
