package tests

import (
	"slices"
	"testing"

	"loop.example/g00043/impl"
)

func lineIs(t *testing.T, b blockNet, want ...int) {
	t.Helper()
	slow, ok := b.lineSlow()
	holdSignal(t, "the oracle by hand", slow, ok, want)
	got, ok := impl.Line(b.n, b.wires)
	holdSignal(t, "Line by hand", got, ok, want)
}

func wavesAre(t *testing.T, b blockNet, want ...[]int) {
	t.Helper()
	slow, ok := b.wavesSlow()
	holdRows(t, "the oracle by hand", slow, ok, want)
	got, ok := impl.Waves(b.n, b.wires)
	holdRows(t, "Waves by hand", got, ok, want)
}

func isStuck(t *testing.T, what string, b blockNet) {
	t.Helper()
	if _, ok := impl.Balance(b.n, b.wires); !ok {
		t.Errorf("%s has no balance", what)
	}
	got, ok := impl.Line(b.n, b.wires)
	noSignal(t, "Line of "+what, got, ok)
	rows, ok := impl.Waves(b.n, b.wires)
	noRows(t, "Waves of "+what, rows, ok)
	noLatency(t, what, b, make([]int, b.n))
}

func TestNetLineByHand(t *testing.T) {
	lineIs(t, netOf(1), 0)
	lineIs(t, netOf(3), 0, 1, 2)
	lineIs(t, netOf(maxBlocks), counted(maxBlocks)...)
	lineIs(t, netOf(3, wired(0, 1, 2, 3), wired(1, 2, 1, 2)), 0, 0, 0, 1, 1, 2)
	lineIs(t, netOf(2, wired(1, 0, 1, 1)), 1, 0)
	lineIs(t, netOf(2, wired(1, 0, 1, 3)), 1, 1, 1, 0)
	lineIs(t, netOf(2, wired(1, 0, 3, 1)), 1, 0, 0, 0)
	lineIs(t, netOf(2, wired(1, 0, 2, 3)), 1, 1, 0, 1, 0)
	lineIs(t, netOf(3, wired(2, 0, 1, 1)), 1, 2, 0)
	lineIs(t, netOf(3, wired(2, 1, 1, 1), wired(1, 0, 1, 1)), 2, 1, 0)
	lineIs(t, netOf(3, wired(2, 1, 2, 3), wired(1, 0, 1, 2)), 2, 2, 1, 2, 1, 0)
}

// Of those that can fire the first one does, again and again until it is done.
func TestNetLineOfSeveralThatCanFire(t *testing.T) {
	lineIs(t, netOf(2, laden(0, 1, 1, 3, 2)), 0, 0, 0, 1)
	lineIs(t, netOf(2, laden(0, 1, 1, 3, 3)), 0, 0, 0, 1)
	lineIs(t, netOf(2, laden(1, 0, 3, 1, 1)), 0, 1, 0, 0)
	lineIs(t, netOf(2, laden(1, 0, 3, 1, 2)), 0, 0, 1, 0)
	lineIs(t, netOf(2, laden(1, 0, 3, 1, 3)), 0, 0, 0, 1)
	lineIs(t, netOf(2, laden(1, 0, 3, 1, 1000)), 0, 0, 0, 1)
	lineIs(t, netOf(3, laden(1, 0, 3, 1, 1), wired(2, 1, 1, 1)), 0, 2, 1, 0, 0)
	lineIs(t, netOf(4, wired(3, 0, 1, 2), wired(3, 1, 1, 1), wired(3, 2, 1, 1)), 3, 1, 2, 3, 0, 1, 2)
	lineIs(t, netOf(5, wired(4, 0, 3, 2), wired(2, 1, 1, 2)), 2, 2, 1, 3, 4, 0, 4, 0, 0)
}

func TestNetLineOfWiresThatComeBack(t *testing.T) {
	lineIs(t, netOf(2, wired(0, 1, 1, 1), laden(1, 0, 1, 1, 1)), 0, 1)
	lineIs(t, netOf(2, laden(0, 1, 1, 1, 1), wired(1, 0, 1, 1)), 1, 0)
	lineIs(t, netOf(2, wired(0, 1, 2, 3), laden(1, 0, 3, 2, 4)), 0, 0, 1, 0, 1)
	lineIs(t, netOf(2, wired(0, 1, 2, 3), laden(1, 0, 3, 2, 6)), 0, 0, 0, 1, 1)
	lineIs(t, netOf(1, laden(0, 0, 7, 7, 7)), 0)
	lineIs(t, netOf(2, laden(0, 0, 1, 1, 1), wired(0, 1, 1, 3)), 0, 0, 0, 1)
	lineIs(t, netOf(3, wired(0, 1, 1, 1), wired(1, 2, 1, 1), laden(2, 0, 1, 1, 2)), 0, 1, 2)
}

func TestNetStuckAtTheBeginning(t *testing.T) {
	isStuck(t, "a block that waits for itself", netOf(1, wired(0, 0, 1, 1)))
	isStuck(t, "a block that waits for itself", netOf(1, laden(0, 0, 64, 64, 63)))
	isStuck(t, "two that wait for each other", netOf(2, wired(0, 1, 1, 1), wired(1, 0, 1, 1)))
	isStuck(t, "two that wait for each other", netOf(2, laden(0, 1, 2, 2, 1), laden(1, 0, 2, 2, 1)))
	isStuck(t, "two that wait for each other", netOf(2, laden(0, 1, 2, 3, 2), laden(1, 0, 3, 2, 1)))
	isStuck(t, "three that wait", netOf(3, wired(0, 1, 1, 1), wired(1, 2, 1, 1), wired(2, 0, 1, 1)))
}

// Some have fired, and are not told.
func TestNetStuckLater(t *testing.T) {
	isStuck(t, "a block behind another one", netOf(2, wired(0, 1, 1, 1), wired(1, 1, 1, 1)))
	isStuck(t, "a loop that lacks one", netOf(2, wired(0, 1, 2, 3), laden(1, 0, 3, 2, 2)))
	isStuck(t, "a loop that lacks one", netOf(2, wired(0, 1, 2, 3), laden(1, 0, 3, 2, 3)))
	isStuck(t, "a loop that lacks one", netOf(2, laden(0, 1, 2, 3, 1), laden(1, 0, 3, 2, 2)))
	lineIs(t, netOf(2, laden(0, 1, 2, 3, 1), laden(1, 0, 3, 2, 3)), 0, 1, 0, 0, 1)
	isStuck(t, "a good part beside a stuck one", netOf(4, wired(0, 1, 1, 5), wired(2, 3, 1, 1), wired(3, 2, 1, 1)))
	isStuck(t, "the last of many", netOf(maxBlocks, wired(19, 19, 1, 1)))
	isStuck(t, "what takes its own last", netOf(2, laden(0, 0, 1, 1, 1), wired(0, 1, 1, 2), laden(1, 0, 4, 2, 2)))
	lineIs(t, netOf(2, laden(0, 0, 1, 1, 1), wired(0, 1, 1, 2), laden(1, 0, 4, 2, 4)), 0, 0, 1)
}

func TestNetLineAtMaxFires(t *testing.T) {
	want := slices.Concat([]int{0}, slices.Repeat([]int{1}, 44), slices.Repeat([]int{2}, 1936), slices.Repeat([]int{3}, 19))
	lineIs(t, fortyFours(19), want...)
	isStuck(t, "a net of MaxFires", netOf(4, append(fortyFours(19).wires, wired(3, 3, 1, 1))...))
}

func TestNetWavesByHand(t *testing.T) {
	wavesAre(t, netOf(1), []int{0})
	wavesAre(t, netOf(maxBlocks), counted(maxBlocks))
	wavesAre(t, netOf(3, wired(0, 1, 2, 3), wired(1, 2, 1, 2)), []int{0}, []int{0}, []int{0, 1}, []int{1}, []int{2})
	wavesAre(t, netOf(3, wired(2, 0, 1, 1)), []int{1, 2}, []int{0})
	wavesAre(t, netOf(2, laden(1, 0, 3, 1, 1)), []int{0, 1}, []int{0}, []int{0})
	wavesAre(t, netOf(2, laden(0, 1, 1, 3, 3)), []int{0, 1}, []int{0}, []int{0})
	wavesAre(t, netOf(5, wired(4, 0, 3, 2), wired(2, 1, 1, 2)), []int{2, 3, 4}, []int{0, 2, 4}, []int{0, 1}, []int{0})
}

// What is given in a wave is there for the next one only, whether the giver stands ahead of the taker or behind it.
func TestNetWavesTakeNothingOfTheirOwn(t *testing.T) {
	wavesAre(t, netOf(2, wired(0, 1, 1, 1)), []int{0}, []int{1})
	wavesAre(t, netOf(2, wired(1, 0, 1, 1)), []int{1}, []int{0})
	wavesAre(t, netOf(4, wired(0, 1, 1, 1), wired(1, 2, 1, 1), wired(2, 3, 1, 1)), []int{0}, []int{1}, []int{2}, []int{3})
	wavesAre(t, netOf(4, wired(3, 2, 1, 1), wired(2, 1, 1, 1), wired(1, 0, 1, 1)), []int{3}, []int{2}, []int{1}, []int{0})
	wavesAre(t, netOf(2, laden(0, 1, 64, 64, 63)), []int{0}, []int{1})
	wavesAre(t, netOf(2, laden(0, 1, 64, 64, 64)), []int{0, 1})
	wavesAre(t, netOf(3, wired(0, 2, 1, 1), laden(1, 2, 1, 1, 1)), []int{0, 1}, []int{2})
}

func TestNetWavesOfWiresThatComeBack(t *testing.T) {
	wavesAre(t, netOf(2, wired(0, 1, 1, 1), laden(1, 0, 1, 1, 1)), []int{0}, []int{1})
	wavesAre(t, netOf(2, laden(0, 1, 1, 1, 1), laden(1, 0, 1, 1, 1)), []int{0, 1})
	wavesAre(t, netOf(2, wired(0, 1, 2, 3), laden(1, 0, 3, 2, 4)), []int{0}, []int{0}, []int{1}, []int{0}, []int{1})
	wavesAre(t, netOf(2, laden(0, 1, 2, 3, 3), laden(1, 0, 3, 2, 4)), []int{0, 1}, []int{0}, []int{0, 1})
	wavesAre(t, netOf(1, laden(0, 0, 7, 7, 7)), []int{0})
	wavesAre(t, netOf(2, laden(0, 0, 1, 1, 1), wired(0, 1, 1, 2)), []int{0}, []int{0}, []int{1})
}

func TestNetRoundsOfManyNets(t *testing.T) {
	stuck, through := 0, 0
	manyNets(1931, func(g *formSource, b blockNet) {
		lineHolds(t, b)
		wavesHold(t, b)
		if _, ok := b.lineSlow(); ok {
			through++
			return
		}
		stuck++
		isStuck(t, "a net", b)
	})
	if stuck < 150 || through < 150 {
		t.Errorf("%d nets were stuck, %d went through", stuck, through)
	}
}

// A map is gone through in any order; what is told has one.
func TestNetRoundsAgainAndAgain(t *testing.T) {
	g := formSource(1932)
	for _, b := range append(fewNets(), g.laidOut(g.net(maxBlocks, 15, []int{1, 2, 3}), 3)) {
		for range 20 {
			lineHolds(t, b)
			wavesHold(t, b)
		}
	}
}

// roundBy goes through a round in an order by chance; false where it is stuck.
func (g *formSource) roundBy(b blockNet) ([]int, bool) {
	waves, ok := b.roundSlow(func(ready []int) []int {
		at := g.below(len(ready))
		return ready[at : at+1]
	})
	return slices.Concat(waves...), ok
}

// Promise 21: behind a round each wire has what it had, in any order that can fire.
func TestNetRoundLeavesWhatWasThere(t *testing.T) {
	manyNets(1933, func(g *formSource, b blockNet) {
		line, ok := impl.Line(b.n, b.wires)
		if !ok {
			return
		}
		orders := [][]int{line, slices.Concat(wavesOf(impl.Waves(b.n, b.wires))...)}
		for range 4 {
			order, _ := g.roundBy(b)
			orders = append(orders, order)
		}
		for _, order := range orders {
			lies, code := impl.Fire(b.n, b.wires, order)
			holdFires(t, "Fire of a round", lies, code, b.havings(), -1)
			lies, code = impl.Fire(b.n, b.wires, slices.Repeat(order, min(3, maxFires/len(order))))
			holdFires(t, "Fire of some rounds", lies, code, b.havings(), -1)
		}
	})
}

func wavesOf(waves [][]int, _ bool) [][]int { return waves }

// Promise 21: where Line is stuck, so is every order that is tried by chance, and where it is not, none is.
func TestNetStuckInEveryOrderByChance(t *testing.T) {
	manyNets(1934, func(g *formSource, b blockNet) {
		_, ok := impl.Line(b.n, b.wires)
		for range 4 {
			if _, through := g.roundBy(b); through != ok {
				t.Errorf("an order by chance goes through: %v, Line: %v, of %v", through, ok, b)
			}
		}
	})
}

// ends searches all orders of what is left to fire, and tells whether one of them goes through, and whether one is stuck.
func (b blockNet) ends(counts, fires []int, seen map[int]bool) (through, stuck bool) {
	key := 0
	for block, count := range counts {
		key = key*(fires[block]+1) + count
	}
	if seen[key] {
		return false, false
	}
	seen[key] = true
	if slices.Equal(counts, fires) {
		return true, false
	}
	ready := b.readySlow(counts, fires)
	stuck = len(ready) == 0
	for _, block := range ready {
		next := slices.Clone(counts)
		next[block]++
		goesOn, stops := b.ends(next, fires, seen)
		through, stuck = through || goesOn, stuck || stops
	}
	return through, stuck
}

func TestNetStuckInEveryOrder(t *testing.T) {
	g := formSource(1935)
	through, stuck := 0, 0
	for _, some := range [][]int{{1}, {1, 2, 3}, {1, 2, 4}, {2, 3, 5}} {
		for n := 1; n <= 4; n++ {
			for range 60 {
				b := g.laidOut(g.net(n, 1+g.below(2*n), some), g.below(6))
				fires, _ := b.balanceSlow()
				goesOn, stops := b.ends(make([]int, n), fires, map[int]bool{})
				if _, ok := impl.Line(b.n, b.wires); ok != goesOn || ok == stops {
					t.Errorf("Line is %v, but some order goes through: %v, some is stuck: %v, of %v", ok, goesOn, stops, b)
				}
				if goesOn {
					through++
				} else {
					stuck++
				}
			}
		}
	}
	if through < 100 || stuck < 100 {
		t.Errorf("%d nets went through, %d were stuck", through, stuck)
	}
}

// Promise 21: waves fire what lines fire, each block as often as Balance says, and in each order within a wave.
func TestNetWavesFireWhatLinesFire(t *testing.T) {
	manyNets(1936, func(g *formSource, b blockNet) {
		line, ok := impl.Line(b.n, b.wires)
		waves, okWaves := impl.Waves(b.n, b.wires)
		if ok != okWaves {
			t.Errorf("Line is %v, Waves are %v, of %v", ok, okWaves, b)
		}
		if !ok {
			return
		}
		fires, _ := impl.Balance(b.n, b.wires)
		inLine, inWaves := make([]int, b.n), make([]int, b.n)
		for _, block := range line {
			inLine[block]++
		}
		turned := []int{}
		for _, wave := range waves {
			for _, block := range wave {
				inWaves[block]++
			}
			if len(wave) == 0 || !slices.IsSorted(wave) || len(slices.Compact(slices.Clone(wave))) != len(wave) {
				t.Errorf("%v is no wave", wave)
			}
			turned = append(turned, backwards(wave)...)
		}
		holdSignal(t, "what Line fires", inLine, true, fires)
		holdSignal(t, "what Waves fire", inWaves, true, fires)
		lies, code := impl.Fire(b.n, b.wires, turned)
		holdFires(t, "Fire of waves, each backwards", lies, code, b.havings(), -1)
	})
}
