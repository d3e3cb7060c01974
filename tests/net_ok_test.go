package tests

import (
	"slices"
	"testing"

	"loop.example/g00043/impl"
)

func TestNetLimits(t *testing.T) {
	holdInt(t, "MaxBlocks", maxBlocks, 20)
	holdInt(t, "MaxWires", maxWires, 40)
	holdInt(t, "MaxGive", maxGive, 64)
	holdInt(t, "MaxFires", maxFires, 2000)
}

func TestNetBlocks(t *testing.T) {
	for n := -3; n <= 2*maxBlocks; n++ {
		okIs(t, netOf(n), n >= 1 && n <= 20)
		okIs(t, blockNet{n, []impl.Wire{}}, n >= 1 && n <= 20)
		okIs(t, netOf(n, wired(0, 0, 1, 1)), n >= 1 && n <= 20)
		okIs(t, netOf(n, wired(n-1, n-1, 1, 1)), n >= 1 && n <= 20)
	}
}

func TestNetWiresAtTheirLimit(t *testing.T) {
	for count := range 2*maxWires + 2 {
		okIs(t, netOf(1, slices.Repeat([]impl.Wire{wired(0, 0, 1, 1)}, count)...), count <= 40)
		okIs(t, netOf(maxBlocks, slices.Repeat([]impl.Wire{laden(19, 0, 64, 64, 1000)}, count)...), count <= 40)
	}
}

func TestNetWireNumbers(t *testing.T) {
	for x := -2; x <= 1003; x++ {
		for _, n := range []int{1, 2, 7, maxBlocks} {
			okIs(t, netOf(n, wired(x, 0, 1, 1)), x >= 0 && x < n)
			okIs(t, netOf(n, wired(0, x, 1, 1)), x >= 0 && x < n)
			okIs(t, netOf(n, wired(x, x, 1, 1)), x >= 0 && x < n)
			okIs(t, netOf(n, wired(n-1, 0, x, 1)), x >= 1 && x <= 64)
			okIs(t, netOf(n, wired(n-1, 0, 1, x)), x >= 1 && x <= 64)
			okIs(t, netOf(n, wired(0, 0, x, x)), x >= 1 && x <= 64)
			okIs(t, netOf(n, laden(0, n-1, 1, 1, x)), x >= 0 && x <= 1000)
			okIs(t, netOf(n, laden(0, 0, 64, 64, x)), x >= 0 && x <= 1000)
		}
	}
}

// A net may be one whatever its balance is.
func TestNetWiresWithoutABalance(t *testing.T) {
	okIs(t, netOf(2, wired(0, 1, 1, 2), wired(0, 1, 1, 1)), true)
	okIs(t, netOf(1, wired(0, 0, 1, 64)), true)
	okIs(t, netOf(2, wired(0, 1, 1, 1), wired(1, 0, 1, 1)), true)
}

func TestNetsThatAreNone(t *testing.T) {
	for _, b := range noNets() {
		okIs(t, b, false)
		got, ok := impl.Balance(b.n, b.wires)
		noSignal(t, "Balance of no wires", got, ok)
		for _, order := range [][]int{nil, {0}, {1, 0}, {-1}, make([]int, maxFires+1)} {
			lies, code := impl.Fire(b.n, b.wires, order)
			holdFires(t, "Fire of no wires", lies, code, nil, -2)
			got, ok = impl.Room(b.n, b.wires, order)
			noSignal(t, "Room of no wires", got, ok)
		}
		got, ok = impl.Line(b.n, b.wires)
		noSignal(t, "Line of no wires", got, ok)
		rows, ok := impl.Waves(b.n, b.wires)
		noRows(t, "Waves of no wires", rows, ok)
		for _, costs := range [][]int{nil, {1}, {1, 1, 1}} {
			noLatency(t, "no wires", b, costs)
		}
	}
}

func TestNetWiresOfAllKinds(t *testing.T) {
	manyNets(1901, func(g *formSource, b blockNet) {
		okIs(t, b, true)
		if len(b.wires) == 0 {
			return
		}
		wrong := wrongWires(b.n)
		for range 5 {
			wires := slices.Clone(b.wires)
			wires[g.below(len(wires))] = wrong[g.below(len(wrong))]
			okIs(t, blockNet{b.n, wires}, allRight(b.n, wires))
		}
	})
}

// allRight asks each wire by itself: what is wrong for some nets may be right for others.
func allRight(n int, wires []impl.Wire) bool {
	for _, w := range wires {
		for _, x := range [][3]int{{w.From, 0, n - 1}, {w.To, 0, n - 1}, {w.Give, 1, 64}, {w.Take, 1, 64}, {w.Have, 0, 1000}} {
			if x[0] < x[1] || x[0] > x[2] {
				return false
			}
		}
	}
	return true
}
