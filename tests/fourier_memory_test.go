package tests

import (
	"math"
	"slices"
	"sync"
	"testing"

	"loop.example/g00043/impl"
)

// A fourierCall is one call and what it answered.
type fourierCall struct {
	transform
	back   bool
	list   []impl.Pair
	got    []impl.Pair
	pieces [][]impl.Pair
	ok     bool
}

// callAtOnce calls with each length, both ways, some times, all at the same time; no two calls share a list.
func callAtOnce(seed uint64, count int) []fourierCall {
	g := formSource(seed)
	calls := []fourierCall{}
	for range count {
		for _, n := range halvedCounts {
			for _, x := range transforms {
				for _, back := range bothWays {
					calls = append(calls, fourierCall{transform: x, back: back, list: floatKinds[0].pairs(&g, n)})
				}
			}
		}
	}
	var ready, all sync.WaitGroup
	ready.Add(1)
	for at := range calls {
		all.Go(func() {
			c := &calls[at]
			ready.Wait()
			c.got, c.ok = c.call(c.list, c.back)
			c.pieces, _ = impl.Pieces(c.list, len(c.list), 1)
		})
	}
	ready.Done()
	all.Wait()
	return calls
}

// firstCalls is made ahead of every test: no call of these functions comes before it in the process.
var firstCalls = callAtOnce(821, 1)

func holdCalls(t *testing.T, what string, calls []fourierCall) {
	t.Helper()
	for _, c := range calls {
		holdTransform(t, what+c.name+wayName(c.back), c.got, c.ok, c.bits(bitsOfPairs(c.list), c.back), c.list)
		if len(c.pieces) != 1 {
			t.Fatalf("%s there are %d pieces", what, len(c.pieces))
		}
		holdTransform(t, what+"the piece", c.pieces[0], true, fastBits(bitsOfPairs(c.list), false), c.list)
	}
}

func TestFourierFirstCalls(t *testing.T) {
	holdCalls(t, "in the first calls ", firstCalls)
}

func TestFourierAtTheSameTime(t *testing.T) {
	holdCalls(t, "at the same time ", callAtOnce(822, 3))
}

// One list may be read by many calls at the same time, as none writes into it.
func TestFourierOfOneListAtTheSameTime(t *testing.T) {
	g := formSource(823)
	list := floatKinds[0].pairs(&g, maxPairs)
	slow, fast := fourierBits(bitsOfPairs(list), false), fastBits(bitsOfPairs(list), true)
	powers := powersBits(bitsOfPairs(list))
	var all sync.WaitGroup
	for range 50 {
		all.Go(func() {
			got, _ := impl.Fourier(list, false)
			holdPairs(t, "Fourier", got, slow)
			got, _ = impl.Fast(list, true)
			holdPairs(t, "Fast, back,", got, fast)
			holdFloats(t, "Powers", impl.Powers(list), powers)
		})
	}
	all.Wait()
}

func fillPairs(list []impl.Pair) {
	full := list[:cap(list)]
	for i := range full {
		full[i] = pairOf(-9, 9)
	}
}

func fillFloats(list []float64) {
	full := list[:cap(list)]
	for i := range full {
		full[i] = -9
	}
}

// Each answer is written over, and the next one does not feel it.
func TestFourierAnswersAreNewMemory(t *testing.T) {
	g := formSource(824)
	for _, n := range halvedCounts {
		list := floatKinds[0].pairs(&g, n)
		bits := bitsOfPairs(list)
		for _, x := range transforms {
			for _, back := range bothWays {
				want := x.bits(bits, back)
				untouchedPairs(t, x.name, list, func(piece []impl.Pair) {
					for range 3 {
						got, ok := x.call(piece, back)
						holdTransform(t, x.name+wayName(back), got, ok, want, list)
						fillPairs(got)
					}
				})
			}
		}
		untouchedPairs(t, "Powers", list, func(piece []impl.Pair) {
			for range 3 {
				got := impl.Powers(piece)
				holdFloats(t, "Powers", got, powersBits(bits))
				fillFloats(got)
			}
		})
	}
}

// overwritePieces fills each piece with a number of its own, and asks whether another one has felt it.
func overwritePieces(t *testing.T, pieces [][]impl.Pair) {
	t.Helper()
	for at, piece := range pieces {
		full := piece[:cap(piece)]
		for i := range full {
			full[i].Re, full[i].Im = float64(at), -float64(at)
		}
	}
	for at, piece := range pieces {
		for _, p := range piece[:cap(piece)] {
			if p.Re != float64(at) || p.Im != -float64(at) {
				t.Fatalf("the pieces %d and %v share memory", at, p.Re)
			}
		}
	}
}

func TestFourierPiecesAreNewMemory(t *testing.T) {
	g := formSource(825)
	for _, size := range halvedCounts {
		for _, hop := range []int{1, 2, 7, maxPairs} {
			list := floatKinds[0].pairs(&g, maxPairs)
			want, _ := impl.Pieces(list, size, hop)
			untouchedPairs(t, "Pieces", list, func(piece []impl.Pair) {
				first, _ := impl.Pieces(piece, size, hop)
				overwritePieces(t, first)
				again, ok := impl.Pieces(piece, size, hop)
				if !ok || len(again) != len(want) {
					t.Fatalf("there are %d pieces again, not %d", len(again), len(want))
				}
				for at := range want {
					holdPairs(t, "a piece, again,", again[at], bitsOfPairs(want[at]))
				}
			})
		}
	}
}

// withRoom lays each piece into a room of its own with more behind it, and the pieces too.
func withRoom(pieces [][]impl.Pair) [][]impl.Pair {
	room := [][]impl.Pair{}
	for _, piece := range pieces {
		room = append(room, append(slices.Clone(piece), pairOf(math.NaN(), 7))[:len(piece)])
	}
	return append(room, realPairs(1, 2), nil)[:len(pieces)]
}

func rawPieces(pieces [][]impl.Pair) [][]uint64 {
	raw := [][]uint64{}
	for _, piece := range pieces[:cap(pieces)] {
		raw = append(raw, rawPairs(piece[:cap(piece)]))
	}
	return raw
}

func TestFourierAverageArgumentsStay(t *testing.T) {
	g := formSource(826)
	for _, count := range []int{1, 2, 5, maxPairs} {
		for _, length := range []int{0, 1, 3, 8} {
			pieces := withRoom(floatKinds[7].pieces(&g, count, length))
			ahead := rawPieces(pieces)
			for range 2 {
				means, _ := impl.Average(pieces)
				holdFloats(t, "Average", means, averageBits(pieces))
				fillFloats(means)
			}
			if !slices.EqualFunc(rawPieces(pieces), ahead, slices.Equal[[]uint64]) {
				t.Errorf("Average has written into %d pieces of %d", count, length)
			}
		}
	}
}

// Pieces that are one piece of memory are told as if they were several.
func TestFourierPiecesThatAreOne(t *testing.T) {
	piece := []impl.Pair{pairOf(3, 4), pairOf(1, 1)}
	means, ok := impl.Average([][]impl.Pair{piece, piece, piece})
	if !ok {
		t.Error("the average is refused")
	}
	holdFloats(t, "Average", means, allBits([]float64{25, 2}))
}

// What is refused is not written into either, nor handed out.
func TestFourierRefusedArgumentsStay(t *testing.T) {
	for _, count := range []int{0, 3, 127, maxPairs + 1, 256} {
		list := slices.Repeat([]impl.Pair{pairOf(5, math.NaN())}, count)
		untouchedPairs(t, "what is refused", list, func(piece []impl.Pair) {
			for _, back := range bothWays {
				for _, x := range transforms {
					got, _ := x.call(piece, back)
					fillPairs(got)
				}
			}
			fillFloats(impl.Powers(piece))
			for _, size := range []int{0, 1, 3, 256} {
				for _, hop := range []int{0, maxPairs + 1} {
					pieces, _ := impl.Pieces(piece, size, hop)
					overwritePieces(t, pieces[:cap(pieces)])
				}
			}
			means, _ := impl.Average([][]impl.Pair{piece, {}, piece[:count/2]})
			fillFloats(means)
		})
	}
}
