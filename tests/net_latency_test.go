package tests

import (
	"math"
	"slices"
	"testing"

	"loop.example/g00043/impl"
)

func latencyIs(t *testing.T, b blockNet, costs []int, want int) {
	t.Helper()
	holdInt(t, "the oracle by hand", b.latencySlow(costs), want, b, costs)
	took, ok := impl.Latency(b.n, b.wires, costs)
	holdLatency(t, "Latency by hand", took, ok, want, b, costs)
}

// Without wires each has a worker of its own, and the dearest one ends last, wherever it stands in the line.
func TestNetLatencyWithoutWires(t *testing.T) {
	latencyIs(t, netOf(1), []int{0}, 0)
	latencyIs(t, netOf(1), []int{7}, 7)
	latencyIs(t, netOf(1), []int{1000}, 1000)
	latencyIs(t, netOf(2), []int{10, 1}, 10)
	latencyIs(t, netOf(2), []int{1, 10}, 10)
	latencyIs(t, netOf(maxBlocks), counted(maxBlocks), 19)
	latencyIs(t, netOf(maxBlocks), backwards(counted(maxBlocks)), 19)
	latencyIs(t, netOf(maxBlocks), slices.Repeat([]int{1000}, maxBlocks), 1000)
}

func TestNetLatencyOfBlocksThatWaitForSamples(t *testing.T) {
	latencyIs(t, netOf(2, wired(0, 1, 1, 1)), []int{3, 4}, 7)
	latencyIs(t, netOf(2, wired(1, 0, 1, 1)), []int{3, 4}, 7)
	latencyIs(t, netOf(3, wired(0, 1, 2, 3), wired(1, 2, 1, 2)), []int{10, 1, 5}, 36)
	latencyIs(t, netOf(3, wired(0, 1, 2, 3), wired(1, 2, 1, 2)), []int{1, 10, 5}, 27)
	latencyIs(t, netOf(3, wired(0, 2, 1, 1), wired(1, 2, 1, 1)), []int{9, 5, 1}, 10)
	latencyIs(t, netOf(3, wired(0, 2, 1, 1), wired(1, 2, 1, 1)), []int{5, 9, 1}, 10)
	latencyIs(t, netOf(3, wired(2, 1, 1, 1), wired(1, 0, 1, 1)), []int{100, 10, 1}, 111)
	latencyIs(t, netOf(3, wired(0, 1, 1, 1), wired(0, 2, 1, 1)), []int{3, 20, 4}, 23)
	latencyIs(t, netOf(3, wired(0, 1, 1, 1), wired(0, 2, 1, 1)), []int{3, 4, 20}, 23)
	latencyIs(t, netOf(2, wired(0, 1, 1, 1)), []int{0, 0}, 0)
	latencyIs(t, netOf(2, wired(0, 1, 1, 1)), []int{0, 5}, 5)
	latencyIs(t, netOf(2, wired(0, 1, 1, 1)), []int{5, 0}, 5)
}

// A block's firings follow one another, though all samples are there.
func TestNetLatencyOfBlocksThatWaitForThemselves(t *testing.T) {
	latencyIs(t, netOf(2, wired(0, 1, 1, 3)), []int{4, 1}, 13)
	latencyIs(t, netOf(2, wired(0, 1, 3, 1)), []int{4, 1}, 7)
	latencyIs(t, netOf(2, wired(0, 1, 3, 1)), []int{1, 4}, 13)
	latencyIs(t, netOf(2, laden(0, 1, 3, 1, 1000)), []int{1, 4}, 12)
	latencyIs(t, netOf(2, laden(0, 1, 1, 1, 1), laden(0, 0, 5, 5, 900)), []int{4, 4}, 4)
	latencyIs(t, netOf(3, wired(0, 1, 1, 4), wired(0, 2, 1, 4)), []int{2, 3, 5}, 13)
}

// What lies there is there at 0, and is taken first.
func TestNetLatencyOfSamplesThatLieThere(t *testing.T) {
	latencyIs(t, netOf(2, laden(0, 1, 1, 1, 1)), []int{10, 3}, 10)
	latencyIs(t, netOf(2, laden(0, 1, 1, 1, 1)), []int{3, 10}, 10)
	latencyIs(t, netOf(2, laden(0, 1, 3, 1, 1)), []int{10, 3}, 16)
	latencyIs(t, netOf(2, laden(0, 1, 3, 1, 2)), []int{10, 3}, 13)
	latencyIs(t, netOf(2, laden(0, 1, 3, 1, 3)), []int{10, 3}, 10)
	latencyIs(t, netOf(2, laden(0, 1, 1, 3, 1)), []int{10, 3}, 30)
	latencyIs(t, netOf(2, laden(0, 1, 1, 3, 2)), []int{10, 3}, 30)
	latencyIs(t, netOf(2, laden(0, 1, 1, 3, 2)), []int{10, 25}, 35)
	latencyIs(t, netOf(2, laden(0, 1, 1, 3, 3)), []int{10, 25}, 30)
	latencyIs(t, netOf(2, laden(0, 1, 2, 3, 1)), []int{10, 7}, 37)
	latencyIs(t, netOf(2, laden(0, 1, 2, 3, 2)), []int{10, 7}, 30)
	latencyIs(t, netOf(3, wired(0, 2, 1, 1), laden(1, 2, 1, 1, 1)), []int{2, 50, 3}, 50)
}

func TestNetLatencyOfAWireToItself(t *testing.T) {
	latencyIs(t, netOf(1, laden(0, 0, 1, 1, 1)), []int{9}, 9)
	latencyIs(t, netOf(1, laden(0, 0, 64, 64, 1000)), []int{9}, 9)
	for _, have := range []int{2, 3, 4, 6, 7} {
		latencyIs(t, netOf(2, laden(0, 0, 2, 2, have), wired(0, 1, 1, 3)), []int{4, 1}, 13)
	}
}

func TestNetLatencyOfWiresThatComeBack(t *testing.T) {
	latencyIs(t, netOf(2, wired(0, 1, 1, 1), laden(1, 0, 1, 1, 1)), []int{3, 4}, 7)
	latencyIs(t, netOf(2, laden(0, 1, 1, 1, 1), laden(1, 0, 1, 1, 1)), []int{3, 4}, 4)
	latencyIs(t, netOf(3, wired(0, 1, 1, 1), laden(1, 0, 1, 1, 1), wired(0, 2, 1, 2)), []int{3, 4, 5}, 15)
	latencyIs(t, netOf(3, wired(0, 1, 1, 1), laden(1, 0, 1, 1, 2), wired(0, 2, 1, 2)), []int{3, 4, 5}, 11)
	latencyIs(t, netOf(2, wired(0, 1, 2, 3), laden(1, 0, 3, 2, 4)), []int{10, 7}, 44)
	latencyIs(t, netOf(2, wired(0, 1, 2, 3), laden(1, 0, 3, 2, 6)), []int{10, 7}, 37)
}

func TestNetLatencyAtMaxFires(t *testing.T) {
	latencyIs(t, fortyFours(19), []int{1000, 1000, 1000, 1000}, 1938000)
	latencyIs(t, fortyFours(19), []int{1000, 0, 0, 1000}, 20000)
	latencyIs(t, fortyFours(19), []int{0, 1000, 1, 0}, 44044)
}

func TestNetLatencyOfManyNets(t *testing.T) {
	manyNets(1941, func(g *formSource, b blockNet) {
		latencyHolds(t, b, g.costs(b.n))
		latencyHolds(t, b, make([]int, b.n))
		latencyHolds(t, b, slices.Repeat([]int{1}, b.n))
	})
}

func (g *formSource) costs(n int) []int {
	costs := g.of([]int{0, 1, 2, 3, 5, 10, 30, maxCost - 1, maxCost}, n)
	if g.below(2) == 0 {
		for at := range costs {
			costs[at] = g.below(maxCost + 1)
		}
	}
	return costs
}

// Promise 21: dearer blocks never make a round shorter, nor longer than each of all firings is dearer.
func TestNetLatencyOfDearerBlocks(t *testing.T) {
	manyNets(1942, func(g *formSource, b blockNet) {
		line, ok := impl.Line(b.n, b.wires)
		if !ok {
			return
		}
		for range 4 {
			costs := g.costs(b.n)
			dearer := slices.Clone(costs)
			for range 1 + g.below(3) {
				block := g.below(b.n)
				dearer[block] += g.below(maxCost - dearer[block] + 1)
			}
			more := 0
			for _, block := range line {
				more += dearer[block] - costs[block]
			}
			took, ok := impl.Latency(b.n, b.wires, costs)
			longer, okLonger := impl.Latency(b.n, b.wires, dearer)
			if !ok || !okLonger || longer < took || longer > took+more {
				t.Errorf("with %v a round of %v takes %d, %v, with %v %d, %v", costs, b, took, ok, dearer, longer, okLonger)
			}
		}
	})
}

// A round takes as long as each block's own firings do, and no longer than all of them together.
func TestNetLatencyBetweenItsEnds(t *testing.T) {
	manyNets(1943, func(g *formSource, b blockNet) {
		line, ok := impl.Line(b.n, b.wires)
		if !ok {
			return
		}
		costs, own, sum := g.costs(b.n), make([]int, b.n), 0
		for _, block := range line {
			own[block] += costs[block]
			sum += costs[block]
		}
		took, ok := impl.Latency(b.n, b.wires, costs)
		if !ok || took < slices.Max(own) || took > sum {
			t.Errorf("a round of %v with %v takes %d, %v", b, costs, took, ok)
		}
	})
}

func TestNetLatencyOfWrongCosts(t *testing.T) {
	for _, b := range fewNets() {
		for count := range maxBlocks + 3 {
			if costs := slices.Repeat([]int{1}, count); count == b.n {
				latencyHolds(t, b, costs)
			} else {
				noLatency(t, "too few or too many costs", b, costs)
			}
		}
		noLatency(t, "no costs", b, nil)
		for place := range b.n {
			costs := slices.Repeat([]int{5}, b.n)
			for _, bad := range []int{-1, maxCost + 1, -2, maxCost + 2, 1 << 32, 1<<32 + 1, 1 - 1<<32, math.MaxInt, math.MinInt, math.MinInt + 1} {
				costs[place] = bad
				noLatency(t, "a cost that is none", b, costs)
			}
			for _, good := range []int{0, 1, maxCost - 1, maxCost} {
				costs[place] = good
				latencyHolds(t, b, costs)
			}
		}
	}
}
