package tests

import (
	"math"
	"slices"
	"testing"

	"loop.example/g00043/impl"
)

// untouchedWires lays wires into a room with more behind them, and asks whether any was written into.
func untouchedWires(t *testing.T, what string, wires []impl.Wire, call func(wires []impl.Wire)) {
	t.Helper()
	room := append(slices.Clone(wires), laden(-1, -2, -3, -4, -5), laden(0, 0, 1, 1, 1))
	ahead := slices.Clone(room)
	call(room[:len(wires)])
	if !slices.Equal(room, ahead) {
		t.Errorf("%s has written into the wires %v", what, ahead)
	}
}

// newOfNet writes over an answer, and wants it as it was once more.
func newOfNet(t *testing.T, what string, wires []impl.Wire, order []int, call func(wires []impl.Wire, order []int) []int) {
	t.Helper()
	untouchedWires(t, what, wires, func(wires []impl.Wire) {
		newMemory(t, what, order, func(order []int) ([]int, bool) { return call(wires, order), true })
	})
}

func liesOf(lies []int, _ int) []int { return lies }

func TestNetAnswersAreNewMemory(t *testing.T) {
	manyNets(1951, func(g *formSource, b blockNet) {
		order := g.anyOrder(b, g.below(12))
		newOfNet(t, "Balance", b.wires, order, func(wires []impl.Wire, _ []int) []int { return listOf(impl.Balance(b.n, wires)) })
		newOfNet(t, "Fire", b.wires, order, func(wires []impl.Wire, order []int) []int { return liesOf(impl.Fire(b.n, wires, order)) })
		newOfNet(t, "Line", b.wires, order, func(wires []impl.Wire, _ []int) []int { return listOf(impl.Line(b.n, wires)) })
		newOfNet(t, "Room", b.wires, order, func(wires []impl.Wire, order []int) []int { return listOf(impl.Room(b.n, wires, order)) })
	})
}

func TestNetWavesAreNewMemory(t *testing.T) {
	manyNets(1952, func(g *formSource, b blockNet) {
		untouchedWires(t, "Waves", b.wires, func(wires []impl.Wire) {
			first, _ := impl.Waves(b.n, wires)
			overwrite(t, first)
			clear(first[:cap(first)])
			wavesHold(t, blockNet{b.n, wires})
		})
	})
}

func TestNetCostsAndWiresStay(t *testing.T) {
	manyNets(1953, func(g *formSource, b blockNet) {
		untouchedWires(t, "WiresOk", b.wires, func(wires []impl.Wire) { okIs(t, blockNet{b.n, wires}, true) })
		untouchedWires(t, "Latency", b.wires, func(wires []impl.Wire) {
			untouchedInts(t, "Latency", g.costs(b.n), func(costs []int) { latencyHolds(t, blockNet{b.n, wires}, costs) })
		})
	})
}

// What is refused is not written into either, nor handed out.
func TestNetRefusedArgumentsStay(t *testing.T) {
	for _, b := range append(noNets(), netOf(1, wired(0, 0, 1, 1)), netOf(2, wired(0, 1, 1, 1), wired(0, 1, 1, 2))) {
		for _, list := range [][]int{{0}, {5, -1}, make([]int, maxFires+1), {math.MaxInt}} {
			untouchedWires(t, "what is refused", b.wires, func(wires []impl.Wire) {
				untouchedInts(t, "what is refused", list, func(piece []int) {
					impl.WiresOk(b.n, wires)
					overwriteNothing(t, piece, listOf(impl.Balance(b.n, wires)))
					overwriteNothing(t, piece, liesOf(impl.Fire(b.n, wires, piece)))
					overwriteNothing(t, piece, listOf(impl.Line(b.n, wires)))
					overwriteNothing(t, piece, listOf(impl.Room(b.n, wires, piece)))
					overwrite(t, wavesOf(impl.Waves(b.n, wires)))
					impl.Latency(b.n, wires, piece)
				})
			})
		}
	}
}

// Order and costs may be a list that was told, and stay it.
func TestNetArgumentsThatWereTold(t *testing.T) {
	for _, b := range fewNets() {
		line, _ := impl.Line(b.n, b.wires)
		want := slices.Clone(line)
		fireHolds(t, b, line)
		roomHolds(t, b, line)
		fires, _ := impl.Balance(b.n, b.wires)
		latencyHolds(t, b, fires)
		overwriteNothing(t, line, liesOf(impl.Fire(b.n, b.wires, line)))
		overwriteNothing(t, line, listOf(impl.Room(b.n, b.wires, line)))
		holdSignal(t, "Line behind the others", line, true, want)
	}
}

// Behind the length of a list nothing is read.
func TestNetReadsNoSpareRoom(t *testing.T) {
	for _, behind := range []impl.Wire{{}, wired(0, 0, 1, 1), wired(0, 0, 1, 2), laden(-1, 0, 1, 1, 1), laden(0, 0, 65, 65, 1001)} {
		for _, b := range fewNets() {
			wires := append(slices.Clone(b.wires), slices.Repeat([]impl.Wire{behind}, maxWires+5)...)
			short := blockNet{b.n, wires[:len(b.wires)]}
			line, _ := b.lineSlow()
			order := append(slices.Clone(line), -1, b.n, 0)[:len(line)]
			okIs(t, short, true)
			balanceHolds(t, short)
			lineHolds(t, short)
			wavesHold(t, short)
			fireHolds(t, short, order)
			roomHolds(t, short, order)
			latencyHolds(t, short, append(make([]int, b.n), -1, maxCost+1)[:b.n])
			noLatency(t, "one cost more behind the end", short, make([]int, b.n)[:b.n-1])
		}
	}
}

// Nothing is kept: what is asked in between changes no answer.
func TestNetKeepsNothing(t *testing.T) {
	g := formSource(1956)
	nets := fewNets()
	others := slices.Concat(nets, noNets()[:20])
	for _, b := range nets {
		for range 3 {
			other := others[g.below(len(others))]
			impl.Balance(other.n, other.wires)
			impl.Waves(other.n, other.wires)
			lineHolds(t, b)
			impl.Fire(other.n, other.wires, []int{0, 1, 0})
			impl.Latency(other.n, other.wires, []int{4})
			wavesHold(t, b)
			balanceHolds(t, b)
			impl.Line(other.n, other.wires)
			impl.Room(other.n, other.wires, []int{0})
			line, _ := impl.Line(b.n, b.wires)
			fireHolds(t, b, line)
			roomHolds(t, b, line)
			latencyHolds(t, b, g.costs(b.n))
		}
	}
}

// Nets are asked by several at once.
func TestNetsAskedAtOnce(t *testing.T) {
	nets := fewNets()
	done := make(chan bool)
	for _, b := range nets {
		want, _ := b.lineSlow()
		waves, _ := b.wavesSlow()
		go func() {
			ok := true
			for range 50 {
				line, right := impl.Line(b.n, b.wires)
				rows, rightRows := impl.Waves(b.n, b.wires)
				_, code := impl.Fire(b.n, b.wires, line)
				ok = ok && right && rightRows && code == -1 && slices.Equal(line, want) && slices.EqualFunc(rows, waves, slices.Equal[[]int])
			}
			done <- ok
		}()
	}
	for range nets {
		if !<-done {
			t.Error("nets that are asked at once are told otherwise")
		}
	}
}
