package tests

import (
	"math"
	"slices"
	"testing"

	"loop.example/g00043/impl"
)

func firesTo(t *testing.T, b blockNet, order []int, code int, want ...int) {
	t.Helper()
	slow, slowCode := b.fireSlow(order)
	holdFires(t, "the oracle by hand", slow, slowCode, want, code)
	lies, got := impl.Fire(b.n, b.wires, order)
	holdFires(t, "Fire by hand", lies, got, want, code)
	roomHolds(t, b, order)
}

func TestNetFireByHand(t *testing.T) {
	b := netOf(3, wired(0, 1, 2, 3), wired(1, 2, 1, 2))
	firesTo(t, b, nil, -1, 0, 0)
	firesTo(t, b, []int{}, -1, 0, 0)
	firesTo(t, b, []int{0}, -1, 2, 0)
	firesTo(t, b, []int{0, 0}, -1, 4, 0)
	firesTo(t, b, []int{0, 0, 1}, -1, 1, 1)
	firesTo(t, b, []int{0, 0, 1, 0, 1}, -1, 0, 2)
	firesTo(t, b, []int{0, 0, 1, 0, 1, 2}, -1, 0, 0)
	firesTo(t, b, []int{0, 0, 0, 1, 1, 2, 0}, -1, 2, 0)
	firesTo(t, netOf(2, laden(0, 1, 2, 3, 7)), []int{1, 1}, -1, 1)
	firesTo(t, netOf(2, laden(0, 1, 2, 3, 1000)), []int{0, 1, 1}, -1, 996)
	firesTo(t, netOf(2, laden(1, 0, 5, 4, 1)), []int{1, 0}, -1, 2)
}

// What can't fire at a place takes nothing, and nothing behind it fires.
func TestNetFireThatCannot(t *testing.T) {
	b := netOf(3, wired(0, 1, 2, 3), wired(1, 2, 1, 2))
	firesTo(t, b, []int{1}, 0, 0, 0)
	firesTo(t, b, []int{2, 0, 0}, 0, 0, 0)
	firesTo(t, b, []int{0, 1, 0, 0}, 1, 2, 0)
	firesTo(t, b, []int{0, 0, 1, 2}, 3, 1, 1)
	firesTo(t, b, []int{0, 0, 1, 1}, 3, 1, 1)
	firesTo(t, b, []int{0, 0, 0, 1, 1, 2, 2}, 6, 0, 0)
	firesTo(t, b, []int{0, 0, 0, 1, 1, 1, 2}, 5, 0, 2)
	firesTo(t, netOf(2, laden(0, 1, 1, 64, 62)), []int{0, 1}, 1, 63)
	firesTo(t, netOf(2, laden(0, 1, 1, 64, 63)), []int{0, 1}, -1, 0)
	firesTo(t, netOf(2, laden(0, 1, 1, 64, 63)), []int{1, 0}, 0, 63)
}

func TestNetFireOfNoBlock(t *testing.T) {
	b := netOf(3, wired(0, 1, 2, 3), laden(2, 2, 1, 1, 4))
	for _, none := range []int{-1, 3, -2, 4, -3, 20, 256, 1 << 32, 1<<32 + 1, 1 - 1<<32, math.MaxInt, math.MinInt} {
		firesTo(t, b, []int{none}, 0, 0, 4)
		firesTo(t, b, []int{none, 0}, 0, 0, 4)
		firesTo(t, b, []int{0, none, 0}, 1, 2, 4)
		firesTo(t, b, []int{0, 0, 2, 1, none}, 4, 1, 4)
		firesTo(t, netOf(3), []int{0, 1, none}, 2)
	}
	for n := 1; n <= maxBlocks; n++ {
		firesTo(t, netOf(n), []int{n - 1}, -1)
		firesTo(t, netOf(n), []int{n - 1, n}, 1)
	}
}

// A block takes ahead of giving: what it would give itself does not help it.
func TestNetFireOfAWireToItself(t *testing.T) {
	firesTo(t, netOf(1, wired(0, 0, 1, 1)), []int{0}, 0, 0)
	firesTo(t, netOf(1, wired(0, 0, 64, 1)), []int{0}, 0, 0)
	firesTo(t, netOf(1, laden(0, 0, 64, 3, 2)), []int{0}, 0, 2)
	firesTo(t, netOf(1, laden(0, 0, 64, 3, 3)), []int{0}, -1, 64)
	firesTo(t, netOf(1, laden(0, 0, 1, 1, 1)), []int{0, 0, 0}, -1, 1)
	firesTo(t, netOf(1, laden(0, 0, 1, 3, 7)), []int{0, 0, 0}, -1, 1)
	firesTo(t, netOf(1, laden(0, 0, 1, 3, 7)), []int{0, 0, 0, 0}, 3, 1)
	firesTo(t, netOf(2, laden(0, 0, 2, 2, 2), wired(0, 1, 1, 2)), []int{0, 1, 0}, 1, 2, 1)
	firesTo(t, netOf(1, laden(0, 0, 1, 1, 1), wired(0, 0, 5, 1)), []int{0}, 0, 1, 0)
}

// Each wire to a block has to have enough, and none of them lends to another one.
func TestNetFireOfSeveralWiresToOne(t *testing.T) {
	for _, c := range []struct{ first, second, code int }{{5, 3, -1}, {5, 2, 1}, {4, 3, 1}, {4, 2, 1}, {9, 2, 1}, {4, 9, 1}, {6, 4, -1}} {
		b := netOf(3, laden(0, 2, 1, 6, c.first), laden(1, 2, 1, 3, c.second))
		if c.code == -1 {
			firesTo(t, b, []int{0, 2}, -1, c.first-5, c.second-3)
		} else {
			firesTo(t, b, []int{0, 2}, 1, c.first+1, c.second)
		}
		b = netOf(3, laden(1, 2, 1, 3, c.second), laden(0, 2, 1, 6, c.first))
		fireHolds(t, b, []int{0, 2})
		fireHolds(t, netOf(2, laden(0, 1, 1, 6, c.first), laden(0, 1, 1, 3, c.second)), []int{0, 1})
	}
	firesTo(t, netOf(2, wired(0, 1, 1, 1), wired(0, 1, 1, 1), wired(0, 1, 1, 2)), []int{0, 1}, 1, 1, 1, 1)
	firesTo(t, netOf(2, wired(0, 1, 1, 1), wired(0, 1, 1, 1), wired(0, 1, 1, 2)), []int{0, 0, 1}, -1, 1, 1, 0)
}

// A block that gives to many gives each its own.
func TestNetFireOfSeveralWiresFromOne(t *testing.T) {
	firesTo(t, netOf(3, wired(0, 1, 3, 2), wired(0, 2, 5, 4), wired(0, 1, 1, 1)), []int{0, 1, 2, 2}, 3, 1, 1, 0)
	firesTo(t, netOf(3, wired(0, 1, 3, 2), wired(0, 2, 5, 4), wired(0, 1, 1, 1)), []int{0, 0, 1, 1, 2, 2}, -1, 2, 2, 0)
}

// The net need not have a balance.
func TestNetFireWithoutABalance(t *testing.T) {
	b := netOf(2, wired(0, 1, 1, 2), wired(0, 1, 1, 1))
	firesTo(t, b, []int{0, 0, 1, 0}, -1, 1, 2)
	firesTo(t, netOf(1, laden(0, 0, 64, 1, 1)), slices.Repeat([]int{0}, 100), -1, 6301)
}

func TestNetFireAtMaxFires(t *testing.T) {
	firesTo(t, netOf(1), make([]int, maxFires), -1)
	firesTo(t, netOf(2, laden(0, 1, 64, 1, 1000)), make([]int, maxFires), -1, 129000)
	firesTo(t, netOf(2, laden(0, 1, 64, 1, 1000)), append(make([]int, maxFires-1), 1), -1, 128935)
	firesTo(t, netOf(2, laden(1, 0, 1, 1, 1000)), make([]int, maxFires), 1000, 0)
	firesTo(t, netOf(1), append(make([]int, maxFires-1), 1), maxFires-1)
	for _, b := range []blockNet{netOf(1), netOf(2, wired(0, 1, 1, 1)), netOf(2, laden(1, 0, 64, 1, 5))} {
		for _, order := range [][]int{make([]int, maxFires+1), make([]int, maxFires+2), make([]int, 3*maxFires), slices.Repeat([]int{-1}, maxFires+1), slices.Repeat([]int{1}, maxFires+1)} {
			lies, code := impl.Fire(b.n, b.wires, order)
			holdFires(t, "Fire of too long an order", lies, code, nil, -2)
			got, ok := impl.Room(b.n, b.wires, order)
			noSignal(t, "Room of too long an order", got, ok)
		}
	}
}

// anyOrder lets blocks fire by chance, those that can't too.
func (g *formSource) anyOrder(b blockNet, count int) []int {
	order := []int{}
	counts := make([]int, b.n)
	for range count {
		block := g.below(b.n)
		for tries := 0; tries < 4 && !b.mayFire(counts, block); tries++ {
			block = g.below(b.n)
		}
		counts[block]++
		order = append(order, block)
	}
	return order
}

func TestNetFireOfManyNets(t *testing.T) {
	stopped, through := 0, 0
	manyNets(1921, func(g *formSource, b blockNet) {
		for range 3 {
			order := g.anyOrder(b, g.below(30))
			fireHolds(t, b, order)
			roomHolds(t, b, order)
			if _, code := b.fireSlow(order); code < 0 {
				through++
				continue
			}
			stopped++
		}
	})
	if stopped < 300 || through < 300 {
		t.Errorf("%d orders were stopped, %d went through", stopped, through)
	}
}

// An order in two pieces leaves what it leaves in one, when what lies there may be laid out once more.
func TestNetFireInPieces(t *testing.T) {
	manyNets(1922, func(g *formSource, b blockNet) {
		order := g.anyOrder(b, 20)
		_, code := b.fireSlow(order)
		if code >= 0 {
			order = order[:code]
		}
		cut := g.below(len(order) + 1)
		lies, first := impl.Fire(b.n, b.wires, order[:cut])
		wires := slices.Clone(b.wires)
		for at := range wires {
			wires[at].Have = lies[at]
		}
		if !impl.WiresOk(b.n, wires) {
			return
		}
		rest, second := impl.Fire(b.n, wires, order[cut:])
		whole, both := impl.Fire(b.n, b.wires, order)
		if first != -1 || second != -1 || both != -1 || !slices.Equal(rest, whole) {
			t.Errorf("in pieces %v, %d, %d, in one %v, %d", rest, first, second, whole, both)
		}
	})
}

func roomIs(t *testing.T, b blockNet, order []int, want ...int) {
	t.Helper()
	holdSignal(t, "the oracle by hand", b.roomSlow(order), true, want)
	got, ok := impl.Room(b.n, b.wires, order)
	holdSignal(t, "Room by hand", got, ok, want)
}

// The most lies there at the beginning, on the way, or at the end.
func TestNetRoomByHand(t *testing.T) {
	b := netOf(2, laden(0, 1, 2, 3, 6))
	roomIs(t, b, nil, 6)
	roomIs(t, b, []int{1}, 6)
	roomIs(t, b, []int{1, 1}, 6)
	roomIs(t, b, []int{1, 0}, 6)
	roomIs(t, b, []int{1, 0, 0, 1}, 7)
	roomIs(t, b, []int{0, 1, 1}, 8)
	roomIs(t, b, []int{0, 0, 1, 1, 1}, 10)
	roomIs(t, b, []int{1, 1, 0, 0, 0, 0}, 8)
	roomIs(t, b, []int{0, 0}, 10)
	roomIs(t, netOf(1), nil)
	roomIs(t, netOf(2), []int{0, 1})
	roomIs(t, netOf(3, wired(0, 1, 2, 3), wired(1, 2, 1, 2)), []int{0, 0, 0, 1, 1, 2}, 6, 2)
	roomIs(t, netOf(3, wired(0, 1, 2, 3), wired(1, 2, 1, 2)), []int{0, 0, 1, 0, 1, 2}, 4, 2)
	roomIs(t, netOf(2, laden(0, 1, 64, 64, 1000)), []int{1, 1, 0}, 1000)
	roomIs(t, netOf(2, laden(0, 1, 64, 1, 1000)), make([]int, maxFires), 129000)
	roomIs(t, netOf(4, laden(0, 1, 2, 3, 9), laden(1, 2, 1, 1, 0), laden(2, 3, 1, 1, 0), laden(3, 3, 1, 1, 4)), []int{1, 1, 2, 0}, 9, 2, 1, 4)
}

// It is asked behind a firing, when the block has taken and given.
func TestNetRoomOfAWireToItself(t *testing.T) {
	roomIs(t, netOf(1, laden(0, 0, 2, 3, 5)), []int{0, 0}, 5)
	roomIs(t, netOf(1, laden(0, 0, 3, 2, 5)), []int{0, 0}, 7)
	roomIs(t, netOf(1, laden(0, 0, 4, 4, 4)), []int{0, 0, 0}, 4)
}

func TestNetRoomOfWhatCannotFire(t *testing.T) {
	b := netOf(3, wired(0, 1, 2, 3), wired(1, 2, 1, 2))
	for _, order := range [][]int{{1}, {2}, {0, 1}, {0, 0, 1, 2}, {0, 0, 1, 1}, {-1}, {3}, {0, -1}, {0, 3, 0}, {0, 0, 0, 1, 1, 2, 2}, {math.MinInt}, {math.MaxInt}} {
		got, ok := impl.Room(b.n, b.wires, order)
		noSignal(t, "Room of what can't fire", got, ok)
	}
}

// With as much room as Room tells an order goes through, with one less on any wire it does not.
func TestNetRoomIsMetExactly(t *testing.T) {
	manyNets(1923, func(g *formSource, b blockNet) {
		order := g.anyOrder(b, 15)
		room, ok := impl.Room(b.n, b.wires, order)
		if !ok {
			return
		}
		for wire, most := range room {
			met := false
			for at := range len(order) + 1 {
				lies, _ := impl.Fire(b.n, b.wires, order[:at])
				met = met || lies[wire] == most
				if lies[wire] > most {
					t.Errorf("%d lie on the wire %d of %v, more than %d", lies[wire], wire, b, most)
				}
			}
			if !met {
				t.Errorf("never as many as %d lie on the wire %d of %v", most, wire, b)
			}
		}
	})
}
