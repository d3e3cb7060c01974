package tests

import (
	"math"
	"slices"
	"testing"

	"loop.example/g00043/impl"
)

// Promise 10, of pieces: they are transforms. And what is told of them: powers and averages.

func holdPieces(t *testing.T, list []impl.Pair, size, hop int) {
	t.Helper()
	pieces, ok := impl.Pieces(list, size, hop)
	count := 0
	if len(list) >= size {
		count = (len(list)-size)/hop + 1
	}
	if !ok || pieces == nil || len(pieces) != count {
		t.Errorf("of %d pairs there are %d pieces of %d, %d apart, and %v, not %d", len(list), len(pieces), size, hop, ok, count)
		return
	}
	for at, piece := range pieces {
		of := list[at*hop : at*hop+size]
		holdTransform(t, "a piece", piece, true, fastBits(bitsOfPairs(of), false), of)
		fast, _ := impl.Fast(of, false)
		holdPairs(t, "a piece beside Fast", piece, bitsOfPairs(fast), of...)
	}
}

func noPieces(t *testing.T, list []impl.Pair, size, hop int) {
	t.Helper()
	if pieces, ok := impl.Pieces(list, size, hop); pieces == nil || len(pieces) != 0 || ok {
		t.Errorf("%d pairs in pieces of %d, %d apart, are not refused: %d pieces, %v", len(list), size, hop, len(pieces), ok)
	}
}

func TestFourierPiecesByHand(t *testing.T) {
	list := realPairs(1, 2, 3, 4)
	for _, c := range []struct {
		size, hop int
		want      [][]impl.Pair
	}{
		{1, 1, [][]impl.Pair{realPairs(1), realPairs(2), realPairs(3), realPairs(4)}},
		{1, 2, [][]impl.Pair{realPairs(1), realPairs(3)}},
		{1, 3, [][]impl.Pair{realPairs(1), realPairs(4)}},
		{1, 4, [][]impl.Pair{realPairs(1)}},
		{2, 1, [][]impl.Pair{realPairs(3, -1), realPairs(5, -1), realPairs(7, -1)}},
		{2, 2, [][]impl.Pair{realPairs(3, -1), realPairs(7, -1)}},
		{2, 3, [][]impl.Pair{realPairs(3, -1)}},
		{4, 1, [][]impl.Pair{{pairOf(10, 0), pairOf(-2, 2), pairOf(-2, 0), pairOf(-2, -2)}}},
		{4, maxPairs, [][]impl.Pair{{pairOf(10, 0), pairOf(-2, 2), pairOf(-2, 0), pairOf(-2, -2)}}},
		{8, 1, [][]impl.Pair{}},
		{128, 128, [][]impl.Pair{}},
	} {
		pieces, ok := impl.Pieces(list, c.size, c.hop)
		same := func(a, b []impl.Pair) bool { return slices.EqualFunc(a, b, impl.Equal) }
		if !ok || !slices.EqualFunc(pieces, c.want, same) {
			t.Errorf("the pieces of %d, %d apart, of %v are %v %v, not %v", c.size, c.hop, list, pieces, ok, c.want)
		}
	}
}

func TestFourierPieces(t *testing.T) {
	g := formSource(811)
	for _, size := range halvedCounts {
		for _, count := range []int{0, 1, 2, 3, 7, size - 1, size, size + 1, 2*size - 1, 2 * size, maxPairs - 1, maxPairs} {
			if count > maxPairs {
				continue
			}
			list := floatKinds[0].pairs(&g, count)
			for _, hop := range []int{1, size, size + 1, max(1, size/2), max(1, count-size), max(1, count-size+1), maxPairs - 1, maxPairs} {
				if hop <= maxPairs && (hop > 3 || size < 32 || count < 40) {
					holdPieces(t, list, size, hop)
				}
			}
		}
	}
}

func TestFourierPiecesOneApart(t *testing.T) {
	g := formSource(812)
	list := floatKinds[0].pairs(&g, maxPairs)
	for _, size := range halvedCounts {
		pieces, ok := impl.Pieces(list, size, 1)
		if !ok || len(pieces) != maxPairs-size+1 {
			t.Fatalf("there are %d pieces of %d and %v", len(pieces), size, ok)
		}
		for at, piece := range pieces {
			fast, _ := impl.Fast(list[at:at+size], false)
			holdPairs(t, "a piece", piece, bitsOfPairs(fast), list[at:at+size]...)
		}
	}
}

func TestFourierPiecesOfEveryKind(t *testing.T) {
	g := formSource(813)
	for _, k := range floatKinds {
		list := k.pairs(&g, 40)
		for _, size := range []int{1, 2, 4, 8, 16, 32} {
			holdPieces(t, list, size, 1+size/2)
		}
	}
}

func TestFourierPiecesOfNothing(t *testing.T) {
	for _, list := range [][]impl.Pair{nil, {}, realPairs(1, 2, 3)[:0]} {
		for _, size := range halvedCounts {
			for _, hop := range []int{1, 2, size, maxPairs} {
				holdPieces(t, list, size, hop)
			}
		}
	}
}

func TestFourierPiecesThatAreNone(t *testing.T) {
	noSizes := append([]int{-1, -2, -128, -256, 1 << 32, 1<<32 + 2, math.MaxInt, math.MinInt, math.MinInt + 1, 1 << 62}, noHalvedCounts...)
	noHops := []int{0, -1, -2, -128, maxPairs + 1, 2 * maxPairs, 1 << 32, 1<<32 + 1, math.MaxInt, math.MinInt}
	for _, count := range []int{0, 1, 2, 3, 5, maxPairs} {
		list := make([]impl.Pair, count)
		for _, size := range noSizes {
			for _, hop := range append([]int{1, 2, maxPairs}, noHops...) {
				noPieces(t, list, size, hop)
			}
		}
		for _, size := range halvedCounts {
			for _, hop := range noHops {
				noPieces(t, list, size, hop)
			}
		}
	}
	for _, count := range []int{maxPairs + 1, maxPairs + 2, 2 * maxPairs, 5000} {
		for _, size := range append([]int{0, 3, 256}, halvedCounts...) {
			for _, hop := range []int{0, 1, size, maxPairs, maxPairs + 1} {
				noPieces(t, make([]impl.Pair, count), size, hop)
			}
		}
	}
}

func TestFourierPowers(t *testing.T) {
	holdFloats(t, "Powers", impl.Powers([]impl.Pair{pairOf(3, 4), pairOf(0, -2), pairOf(-1, 0), {}}), allBits([]float64{25, 4, 1, 0}))
	holdFloats(t, "Powers of nothing", impl.Powers(nil), []uint64{})
	holdFloats(t, "Powers of nothing", impl.Powers([]impl.Pair{}), []uint64{})
	manyPairLists(814, maxPairs, func(kind string, list []impl.Pair) {
		holdFloats(t, "Powers "+kind, impl.Powers(list), powersBits(bitsOfPairs(list)))
	})
	holdFloats(t, "Powers of edges", impl.Powers(edgePairs()[:100]), powersBits(bitsOfPairs(edgePairs()[:100])))
	holdFloats(t, "Powers of edges", impl.Powers(edgePairs()[90:]), powersBits(bitsOfPairs(edgePairs()[90:])))
}

func TestFourierPowersAtMaxPairs(t *testing.T) {
	for _, p := range pairSamples {
		for _, count := range []int{maxPairs + 1, maxPairs + 2, 256, 5000} {
			holdFloats(t, "Powers of too many", impl.Powers(slices.Repeat([]impl.Pair{p}, count)), []uint64{})
		}
		most := slices.Repeat([]impl.Pair{p}, maxPairs)
		holdFloats(t, "Powers of MaxPairs", impl.Powers(most), slices.Repeat([]uint64{power2Bits(bitsOfPair(p))}, maxPairs))
	}
}

func averageHolds(t *testing.T, what string, pieces [][]impl.Pair) {
	t.Helper()
	means, ok := impl.Average(pieces)
	if !ok {
		t.Errorf("the average of %d pieces, %s, is refused", len(pieces), what)
	}
	holdFloats(t, "Average, "+what, means, averageBits(pieces))
}

func (k floatKind) pieces(g *formSource, count int, length int) [][]impl.Pair {
	pieces := [][]impl.Pair{}
	for range count {
		pieces = append(pieces, k.pairs(g, length))
	}
	return pieces
}

func TestFourierAverageByHand(t *testing.T) {
	for _, c := range []struct {
		pieces [][]impl.Pair
		want   []float64
	}{
		{[][]impl.Pair{{}}, []float64{}},
		{[][]impl.Pair{nil, {}, nil}, []float64{}},
		{[][]impl.Pair{{pairOf(3, 4), pairOf(0, 1)}}, []float64{25, 1}},
		{[][]impl.Pair{{pairOf(3, 4)}, {pairOf(1, 0)}}, []float64{13}},
		{[][]impl.Pair{realPairs(1, 2), realPairs(3, 4), realPairs(5, 7)}, []float64{35.0 / 3, 23}},
		// 1e16 and 1 are 1e16, so that what is added first is to be seen.
		{[][]impl.Pair{realPairs(1e8), realPairs(1), realPairs(1)}, []float64{1e16 / 3}},
		{[][]impl.Pair{realPairs(1), realPairs(1), realPairs(1e8)}, []float64{(1e16 + 2) / 3}},
		{[][]impl.Pair{realPairs(1e160), realPairs(1)}, []float64{math.Inf(1)}},
		{[][]impl.Pair{realPairs(0x1.8p511), realPairs(0x1.8p511)}, []float64{math.Inf(1)}},
		{[][]impl.Pair{realPairs(0x1p-537), realPairs(0x1p-537)}, []float64{0x1p-1074}},
		{[][]impl.Pair{realPairs(math.NaN(), 1), realPairs(1, 1)}, []float64{math.NaN(), 1}},
		{[][]impl.Pair{realPairs(math.Inf(-1), 1), realPairs(1, 1)}, []float64{math.Inf(1), 1}},
		{[][]impl.Pair{realPairs(math.Copysign(0, -1)), {pairOf(0, math.Copysign(0, -1))}}, []float64{0}},
	} {
		means, ok := impl.Average(c.pieces)
		if !ok {
			t.Errorf("the average of %v is refused", c.pieces)
		}
		holdFloats(t, "Average", means, allBits(c.want))
	}
}

func TestFourierAverages(t *testing.T) {
	g := formSource(815)
	for _, k := range floatKinds {
		for _, count := range []int{1, 2, 3, 7, 64, 127, maxPairs} {
			for _, length := range []int{0, 1, 2, 3, 16} {
				averageHolds(t, k.name, k.pieces(&g, count, length))
			}
		}
	}
	averageHolds(t, "the greatest", floatKinds[0].pieces(&g, maxPairs, maxPairs))
	averageHolds(t, "of MaxPairs numbers", floatKinds[0].pieces(&g, 1, maxPairs))
	averageHolds(t, "of no number", make([][]impl.Pair, maxPairs))
}

// In these lists another order, or a quotient ahead of the sum, comes out otherwise.
func TestFourierAverageOrdersAreToBeSeen(t *testing.T) {
	g := formSource(816)
	turned, shares := 0, 0
	for range 100 {
		pieces := floatKinds[0].pieces(&g, 5+int(g.next()%20), 1)
		want := averageBits(pieces)[0]
		other := slices.Clone(pieces)
		slices.Reverse(other)
		if averageBits(other)[0] != want {
			turned++
		}
		sum := uint64(0)
		for _, piece := range pieces {
			sum = addBits(sum, divBits(power2Bits(bitsOfPair(piece[0])), bitsOf(float64(len(pieces)))))
		}
		if sum != want {
			shares++
		}
		averageHolds(t, "near 1", pieces)
	}
	if turned < 20 || shares < 20 {
		t.Errorf("only %d and %d of 100 averages hang on their order", turned, shares)
	}
}

func TestFourierAverageOfPieces(t *testing.T) {
	g := formSource(817)
	for _, size := range []int{1, 4, 16, 64} {
		pieces, ok := impl.Pieces(smallPairs(&g, 1000, maxPairs), size, size)
		if !ok {
			t.Fatal("the pieces are refused")
		}
		averageHolds(t, "of transforms", pieces)
		means, _ := impl.Average(pieces[:1])
		holdFloats(t, "Average of one piece", means, allBits(impl.Powers(pieces[0])))
	}
}

func TestFourierAveragesThatAreNone(t *testing.T) {
	lists := func(counts ...int) [][]impl.Pair {
		pieces := [][]impl.Pair{}
		for _, n := range counts {
			pieces = append(pieces, make([]impl.Pair, n))
		}
		return pieces
	}
	for _, pieces := range [][][]impl.Pair{
		nil, {}, lists(1, 2)[:0], lists(1, 2), lists(2, 1), lists(0, 1), lists(1, 0), lists(4, 4, 3), lists(4, 3, 4), lists(3, 4, 4), lists(128, 127), lists(127, 128), lists(128, 129), lists(129, 128),
		lists(129), lists(129, 129), lists(130), lists(256), lists(5000, 5000), append(lists(1, 1), nil), append([][]impl.Pair{nil}, lists(1)...),
		make([][]impl.Pair, maxPairs+1), make([][]impl.Pair, 2*maxPairs), slices.Repeat(lists(1), maxPairs+1), slices.Repeat(lists(129), maxPairs+1), slices.Repeat(lists(1, 2), maxPairs),
	} {
		means, ok := impl.Average(pieces)
		noFloats(t, "Average", means, ok)
	}
}
