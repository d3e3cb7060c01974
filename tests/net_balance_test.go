package tests

import (
	"math/big"
	"slices"
	"testing"

	"loop.example/g00043/impl"
)

func balanceIs(t *testing.T, b blockNet, want ...int) {
	t.Helper()
	slow, ok := b.balanceSlow()
	holdSignal(t, "the oracle by hand", slow, ok, want)
	got, ok := impl.Balance(b.n, b.wires)
	holdSignal(t, "Balance by hand", got, ok, want)
}

func noBalance(t *testing.T, what string, b blockNet) {
	t.Helper()
	if _, ok := b.balanceSlow(); ok {
		t.Errorf("the oracle has a balance of %s", what)
	}
	got, ok := impl.Balance(b.n, b.wires)
	noSignal(t, "Balance of "+what, got, ok)
	got, ok = impl.Line(b.n, b.wires)
	noSignal(t, "Line of "+what, got, ok)
	rows, ok := impl.Waves(b.n, b.wires)
	noRows(t, "Waves of "+what, rows, ok)
	noLatency(t, what, b, make([]int, b.n))
}

func TestNetBalanceWithoutWires(t *testing.T) {
	for n := 1; n <= maxBlocks; n++ {
		balanceIs(t, netOf(n), slices.Repeat([]int{1}, n)...)
	}
}

func TestNetBalanceByHand(t *testing.T) {
	balanceIs(t, netOf(2, wired(0, 1, 2, 3)), 3, 2)
	balanceIs(t, netOf(2, wired(1, 0, 2, 3)), 2, 3)
	balanceIs(t, netOf(2, wired(0, 1, 4, 6)), 3, 2)
	balanceIs(t, netOf(2, wired(0, 1, 64, 1)), 1, 64)
	balanceIs(t, netOf(2, wired(0, 1, 1, 64)), 64, 1)
	balanceIs(t, netOf(2, wired(0, 1, 64, 63)), 63, 64)
	balanceIs(t, netOf(3, wired(0, 1, 2, 3), wired(1, 2, 1, 2)), 3, 2, 1)
	balanceIs(t, netOf(3, wired(0, 2, 1, 2), wired(1, 2, 1, 3)), 2, 3, 1)
	balanceIs(t, netOf(3, wired(2, 0, 1, 2), wired(2, 1, 1, 3)), 3, 2, 6)
	balanceIs(t, netOf(4, wired(0, 1, 1, 2), wired(2, 3, 1, 3), wired(1, 2, 5, 7)), 42, 21, 15, 5)
	balanceIs(t, netOf(4, wired(1, 2, 5, 7), wired(2, 3, 1, 3), wired(0, 1, 1, 2)), 42, 21, 15, 5)
	balanceIs(t, netOf(4, wired(0, 1, 3, 4), wired(2, 3, 5, 6), wired(3, 1, 1, 1)), 20, 15, 18, 15)
}

// What lies on the wires plays no part.
func TestNetBalanceWhateverLiesThere(t *testing.T) {
	for _, have := range []int{0, 1, 2, 3, 999, maxHave} {
		balanceIs(t, netOf(2, laden(0, 1, 2, 3, have)), 3, 2)
		balanceIs(t, netOf(2, laden(0, 1, 1, 1, have), laden(1, 0, 1, 1, 0)), 1, 1)
	}
}

// Each part is the least by itself, wherever its blocks stand.
func TestNetBalanceOfParts(t *testing.T) {
	balanceIs(t, netOf(5, wired(0, 1, 2, 3), wired(3, 4, 4, 2)), 3, 2, 1, 1, 2)
	balanceIs(t, netOf(5, wired(3, 4, 4, 2), wired(0, 1, 2, 3)), 3, 2, 1, 1, 2)
	balanceIs(t, netOf(6, wired(0, 5, 7, 3), wired(4, 1, 5, 2), wired(2, 2, 9, 9)), 3, 5, 1, 1, 2, 7)
	balanceIs(t, netOf(6, wired(5, 0, 1, 7), wired(1, 4, 6, 6), wired(3, 2, 30, 10)), 1, 1, 3, 1, 1, 7)
	b := blockNet{n: maxBlocks}
	want := []int{}
	for pair := range maxBlocks / 2 {
		b.wires = append(b.wires, wired(2*pair, 2*pair+1, pair+2, 1))
		want = append(want, 1, pair+2)
	}
	balanceIs(t, b, want...)
}

func TestNetBalanceOfTwoWiresBetweenTheSame(t *testing.T) {
	balanceIs(t, netOf(2, wired(0, 1, 2, 3), wired(0, 1, 4, 6)), 3, 2)
	balanceIs(t, netOf(2, wired(0, 1, 2, 3), wired(0, 1, 2, 3)), 3, 2)
	balanceIs(t, netOf(2, wired(0, 1, 2, 3), wired(1, 0, 3, 2)), 3, 2)
	noBalance(t, "wires that do not agree", netOf(2, wired(0, 1, 2, 3), wired(0, 1, 2, 2)))
	noBalance(t, "wires that do not agree", netOf(2, wired(0, 1, 2, 3), wired(0, 1, 3, 2)))
	noBalance(t, "wires that do not agree", netOf(2, wired(0, 1, 2, 3), wired(1, 0, 2, 3)))
	noBalance(t, "a wire that comes back and does not agree", netOf(2, wired(0, 1, 1, 1), wired(1, 0, 1, 2)))
}

func TestNetBalanceOfAWireToItself(t *testing.T) {
	for _, give := range []int{1, 2, 63, maxGive} {
		balanceIs(t, netOf(1, wired(0, 0, give, give)), 1)
		balanceIs(t, netOf(3, wired(1, 1, give, give), wired(0, 1, 1, 5)), 5, 1, 1)
		noBalance(t, "a block that gives itself more or less than it takes", netOf(1, wired(0, 0, give, give%64+1)))
		noBalance(t, "a block that gives itself more or less than it takes", netOf(3, wired(0, 1, 1, 5), laden(2, 2, give%64+1, give, 1000)))
	}
}

func TestNetBalanceOfWiresThatComeBack(t *testing.T) {
	balanceIs(t, netOf(3, wired(0, 1, 1, 2), wired(1, 2, 3, 1), wired(2, 0, 2, 3)), 2, 1, 3)
	balanceIs(t, netOf(3, wired(2, 0, 2, 3), wired(1, 2, 3, 1), wired(0, 1, 1, 2)), 2, 1, 3)
	noBalance(t, "wires that come back otherwise", netOf(3, wired(0, 1, 1, 2), wired(1, 2, 3, 1), wired(2, 0, 1, 1)))
	noBalance(t, "wires that come back otherwise", netOf(3, wired(0, 1, 1, 2), wired(1, 2, 3, 1), wired(0, 2, 1, 1)))
	balanceIs(t, netOf(4, wired(0, 1, 2, 1), wired(0, 2, 3, 1), wired(1, 3, 3, 2), wired(2, 3, 1, 1)), 1, 2, 3, 3)
	noBalance(t, "two ways that do not agree", netOf(4, wired(0, 1, 2, 1), wired(0, 2, 3, 1), wired(1, 3, 3, 2), wired(2, 3, 2, 1)))
	noBalance(t, "a good part and a bad one", netOf(4, wired(0, 1, 2, 1), wired(2, 3, 1, 1), wired(2, 3, 1, 2)))
	noBalance(t, "a bad part and a good one", netOf(4, wired(0, 1, 2, 1), wired(0, 1, 1, 1), wired(2, 3, 1, 1)))
}

// fortyFours fire 1, 44, 1936 and last times.
func fortyFours(last int) blockNet {
	return netOf(4, wired(0, 1, 44, 1), wired(1, 2, 44, 1), wired(0, 3, last, 1))
}

func TestNetBalanceAtMaxFires(t *testing.T) {
	balanceIs(t, fortyFours(18), 1, 44, 1936, 18)
	balanceIs(t, fortyFours(19), 1, 44, 1936, 19)
	noBalance(t, "2001 fires", fortyFours(20))
	noBalance(t, "2002 fires", fortyFours(21))
	noBalance(t, "3963 fires", netOf(4, wired(0, 1, 44, 1), wired(1, 2, 44, 1), wired(0, 3, 1, 2)))
}

// All parts are summed up, and each block without a wire, too.
func TestNetBalanceOfPartsAtMaxFires(t *testing.T) {
	wires := []impl.Wire{wired(10, 3, 44, 1), wired(3, 7, 44, 1)}
	for n := 11; n <= maxBlocks; n++ {
		spare := maxFires - 1981 - (n - 3)
		for _, more := range []int{spare - 1, spare, spare + 1} {
			b := netOf(n, append(wires, wired(0, 1, more+1, 1))...)
			if more > spare {
				noBalance(t, "2001 fires in parts", b)
				continue
			}
			want := slices.Repeat([]int{1}, n)
			want[3], want[7], want[1] = 44, 1936, more+1
			balanceIs(t, b, want...)
		}
	}
	for _, b := range []blockNet{netOf(20, wired(0, 1, 31, 32), wired(1, 2, 31, 32), wired(3, 4, 1, 1)), netOf(4, wired(0, 1, 25, 64), wired(1, 2, 36, 49))} {
		balanceHolds(t, b)
	}
}

// Numbers that have nothing in common make the others greater once more; on the way they are past any int.
func TestNetBalanceOfGreatNumbers(t *testing.T) {
	for _, gives := range [][2]int{{64, 1}, {1, 64}, {64, 63}, {63, 64}, {64, 64}, {3, 2}, {37, 36}, {61, 59}} {
		for _, n := range []int{2, 3, 4, 11, 12, 17, maxBlocks} {
			balanceHolds(t, chainOfBlocks(n, gives, gives))
			balanceHolds(t, chainOfBlocks(n, gives, [2]int{gives[1], gives[0]}))
			b := chainOfBlocks(n, gives, gives)
			slices.Reverse(b.wires)
			balanceHolds(t, b)
			b.wires = append(b.wires, wired(n-1, 0, 1, 1))
			balanceHolds(t, b)
		}
	}
	balanceIs(t, chainOfBlocks(maxBlocks, [2]int{64, 64}, [2]int{64, 64}), slices.Repeat([]int{1}, maxBlocks)...)
	balanceIs(t, chainOfBlocks(maxBlocks, [2]int{64, 1}, [2]int{1, 64}), slices.Repeat([]int{1, 64}, maxBlocks/2)...)
	balanceIs(t, chainOfBlocks(maxBlocks, [2]int{63, 64}, [2]int{64, 63}), slices.Repeat([]int{64, 63}, maxBlocks/2)...)
}

// chainOfBlocks gives and takes by the first two and by the second two in turn.
func chainOfBlocks(n int, first, second [2]int) blockNet {
	b := blockNet{n: n}
	for at := range n - 1 {
		b.wires = append(b.wires, wired(at, at+1, first[0], first[1]))
		first, second = second, first
	}
	return b
}

// Ratios that go down step by step: what the first has to divide by is past any int, though each neighbour is nearly as many.
func TestNetBalanceOfManyDivisors(t *testing.T) {
	star, ladder := blockNet{n: maxBlocks}, blockNet{n: maxBlocks}
	for at, prime := range []int{2, 3, 5, 7, 11, 13, 17, 19, 23, 29, 31, 37, 41, 43, 47, 53, 59, 61, 64} {
		star.wires = append(star.wires, wired(0, at+1, 1, prime))
		ladder.wires = append(ladder.wires, wired(at, at+1, maxGive-at, maxGive-at-1))
		balanceHolds(t, star)
		balanceHolds(t, ladder)
	}
	noBalance(t, "a star of primes", star)
	noBalance(t, "a ladder", ladder)
	balanceIs(t, netOf(5, star.wires[:4]...), 210, 105, 70, 42, 30)
}

// The numbers of a balance fit each wire, and those of a part have no divisor in common: no others that fit are less.
func TestNetBalanceIsTheLeast(t *testing.T) {
	manyNets(1911, func(g *formSource, b blockNet) {
		balanceHolds(t, b)
		fires, ok := impl.Balance(b.n, b.wires)
		if !ok {
			t.Errorf("a net made of a balance has none: %v", b)
			return
		}
		for _, w := range b.wires {
			holdInt(t, "what From gives", fires[w.From]*w.Give, fires[w.To]*w.Take, b)
		}
		for block := range b.n {
			part, _ := b.partFrom(block, fires[block])
			common := new(big.Int)
			for other := range part {
				common.GCD(nil, nil, common, big.NewInt(int64(fires[other])))
			}
			holdInt(t, "the common divisor", int(common.Int64()), 1, b)
		}
	})
}

// One number changed nearly always leaves no balance, or another one.
func TestNetBalanceOfChangedNets(t *testing.T) {
	without := 0
	manyNets(1912, func(g *formSource, b blockNet) {
		if len(b.wires) == 0 {
			return
		}
		for range 3 {
			wires := slices.Clone(b.wires)
			at := g.below(len(wires))
			wires[at].Give = 1 + g.below(maxGive)
			wires[at].To = g.below(b.n)
			changed := blockNet{b.n, wires}
			balanceHolds(t, changed)
			if _, ok := changed.balanceSlow(); !ok {
				without++
				noBalance(t, "a net with a changed wire", changed)
			}
		}
	})
	if without < 200 {
		t.Errorf("only %d nets were without a balance", without)
	}
}

// The order of the wires, and the way in which they lead, do not matter.
func TestNetBalanceInAnyOrder(t *testing.T) {
	manyNets(1913, func(g *formSource, b blockNet) {
		want, ok := impl.Balance(b.n, b.wires)
		turned := []impl.Wire{}
		for at := range b.wires {
			w := b.wires[len(b.wires)-1-at]
			if g.below(2) == 0 {
				w = laden(w.To, w.From, w.Take, w.Give, w.Have)
			}
			turned = append(turned, w)
		}
		got, okTurned := impl.Balance(b.n, turned)
		holdSignal(t, "Balance of turned wires", got, ok && okTurned, want)
	})
}
