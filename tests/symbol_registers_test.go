package tests

import (
	"slices"
	"testing"

	"loop.example/g00043/impl"
)

func TestSymbolDifferByHand(t *testing.T) {
	for _, c := range [][2]string{
		{"1101", "1001"}, {"", ""}, {"0", "0"}, {"1", "1"}, {"00", "00"}, {"01", "01"}, {"10", "11"}, {"11", "10"}, {"111", "101"}, {"1111", "1010"}, {"1000", "1111"}, {"0100", "0111"}, {"0001", "0001"}, {"10101", "11001"},
	} {
		bits, want := bitsOfText(c[0]), bitsOfText(c[1])
		told, ok := impl.Differ(bits)
		holdSignal(t, "Differ by hand", told, ok, want)
		back, ok := impl.UnDiffer(want)
		holdSignal(t, "UnDiffer by hand", back, ok, bits)
		holdSignal(t, "the oracle by hand", differSlow(bits), true, want)
		holdSignal(t, "the oracle back by hand", unDifferSlow(want), true, bits)
	}
}

func differHolds(t *testing.T, bits []int) {
	t.Helper()
	told, ok := impl.Differ(bits)
	holdSignal(t, "Differ", told, ok, differSlow(bits))
	back, ok := impl.UnDiffer(told)
	holdSignal(t, "UnDiffer of Differ", back, ok, bits)
	told, ok = impl.UnDiffer(bits)
	holdSignal(t, "UnDiffer", told, ok, unDifferSlow(bits))
	back, ok = impl.Differ(told)
	holdSignal(t, "Differ of UnDiffer", back, ok, bits)
}

func TestSymbolDifferThereAndBack(t *testing.T) {
	shortBits(9, func(bits []int) { differHolds(t, bits) })
	manyBitLists(1321, func(bits []int) { differHolds(t, bits) })
	differHolds(t, nil)
}

// Differences do not feel it when all bits are turned, but for the first.
func TestSymbolDifferencesOfTurnedBits(t *testing.T) {
	manyBitLists(1322, func(bits []int) {
		if len(bits) == 0 {
			return
		}
		turned := slices.Clone(bits)
		for at := range turned {
			turned[at] = 1 - turned[at]
		}
		told, _ := impl.UnDiffer(bits)
		again, ok := impl.UnDiffer(turned)
		told[0] = 1 - told[0]
		holdSignal(t, "UnDiffer of turned bits", again, ok, told)
	})
}

func TestSymbolDifferThatIsRefused(t *testing.T) {
	for _, list := range noBitLists() {
		got, ok := impl.Differ(list)
		noSignal(t, "Differ of no bits", got, ok)
		got, ok = impl.UnDiffer(list)
		noSignal(t, "UnDiffer of no bits", got, ok)
	}
}

func TestSymbolStirByHand(t *testing.T) {
	for _, c := range []struct {
		bits       string
		taps, seed int
		want       string
	}{
		{"0000", 6, 5, "1001"}, {"1111", 6, 5, "0110"}, {"", 1, 1, ""}, {"0", 1, 1, "1"}, {"1", 1, 1, "0"}, {"0", 1, 2, "0"}, {"1", 1, 2, "1"},
		{"00000", 1, 1, "11111"}, {"00000", 2, 1, "10101"}, {"000000", 4, 1, "100100"}, {"000000", 3, 1, "110110"}, {"00000", 1, 2, "01111"},
		{"00000000000000000000", 0x8000, 1, "10000000000000001000"}, {"00000000000000000000", 0x8000, 0x8000, "00000000000000010000"}, {"00000000000000000", 65535, 65535, "10000000000000001"}, {"00000000", 65535, 1, "11000000"}, {"0000", 1, 65535, "1010"},
	} {
		bits, want := bitsOfText(c.bits), bitsOfText(c.want)
		got, ok := impl.Stir(bits, c.taps, c.seed)
		holdSignal(t, "the oracle of Stir by hand", stirSlow(bits, c.taps, c.seed), true, want)
		holdSignal(t, "Stir by hand", got, ok, want)
	}
}

func stirHolds(t *testing.T, bits []int, taps, seed int) {
	t.Helper()
	told, ok := impl.Stir(bits, taps, seed)
	holdSignal(t, "Stir", told, ok, stirSlow(bits, taps, seed))
	back, ok := impl.Stir(told, taps, seed)
	holdSignal(t, "Stir twice", back, ok, bits)
}

func TestSymbolStirTwiceIsWhatWas(t *testing.T) {
	g := formSource(1323)
	for _, taps := range someTurns {
		for _, seed := range someTurns {
			stirHolds(t, g.flips(40), taps, seed)
			stirHolds(t, make([]int, maxBits), taps, seed)
			stirHolds(t, g.flips(maxBits), taps, seed)
		}
	}
	for range 500 {
		stirHolds(t, g.flips(int(g.next()%200)), int(g.next()%maxTurn)+1, int(g.next()%maxTurn)+1)
	}
	manyBitLists(1324, func(bits []int) {
		stirHolds(t, bits, 0xB400, 0xACE1)
		stirHolds(t, bits, 1, 1)
		stirHolds(t, bits, maxTurn, maxTurn)
	})
	shortBits(6, func(bits []int) { stirHolds(t, bits, 6, 5) })
}

// What is stirred in does not hang on the bits.
func TestSymbolStirHangsOnItsRegister(t *testing.T) {
	g := formSource(1325)
	for _, taps := range someTurns {
		for _, seed := range someTurns {
			bits := g.flips(100)
			stream, _ := impl.Stir(make([]int, 100), taps, seed)
			for at := range stream {
				stream[at] ^= bits[at]
			}
			got, ok := impl.Stir(bits, taps, seed)
			holdSignal(t, "Stir", got, ok, stream)
		}
	}
}

func TestSymbolStirThatIsRefused(t *testing.T) {
	noStir := func(what string, bits []int, taps, seed int) {
		t.Helper()
		got, ok := impl.Stir(bits, taps, seed)
		noSignal(t, "Stir with "+what, got, ok)
	}
	for _, bad := range append([]int{0}, noTurns...) {
		for _, bits := range [][]int{nil, {}, {1}, {0, 1, 1}, make([]int, maxBits), make([]int, maxBits+1)} {
			for _, turn := range append([]int{0, 65536, -1}, someTurns...) {
				noStir("no taps", bits, bad, turn)
				noStir("no seed", bits, turn, bad)
			}
			noStir("neither", bits, bad, bad)
		}
	}
	for _, list := range noBitLists() {
		for _, turn := range []int{1, 6, maxTurn, 0, -1} {
			noStir("no bits", list, turn, 1)
			noStir("no bits", list, 1, turn)
		}
	}
}

func TestSymbolFollowByHand(t *testing.T) {
	for _, c := range []struct {
		bits string
		taps int
		want string
	}{
		{"1000", 3, "1101"}, {"", 0, ""}, {"", 65535, ""}, {"0", 65535, "0"}, {"1", 65535, "1"}, {"10110", 0, "10110"}, {"11111", 0, "11111"},
		{"1000", 1, "1111"}, {"1100", 1, "1000"}, {"0101", 1, "0110"}, {"10000", 2, "10101"}, {"11000", 2, "11111"}, {"100000", 4, "100100"},
		{"10000000000000000000", 0x8000, "10000000000000001000"}, {"10000000000000000000000000000000001", 0x8000, "10000000000000001000000000000000101"}, {"1000000000000000000", 65535, "1100000000000000011"},
	} {
		bits, want := bitsOfText(c.bits), bitsOfText(c.want)
		holdSignal(t, "the oracle of Follow by hand", followSlow(bits, c.taps, false), true, want)
		holdSignal(t, "the oracle of UnFollow by hand", followSlow(want, c.taps, true), true, bits)
		told, ok := impl.Follow(bits, c.taps)
		holdSignal(t, "Follow by hand", told, ok, want)
		back, ok := impl.UnFollow(want, c.taps)
		holdSignal(t, "UnFollow by hand", back, ok, bits)
	}
}

func followHolds(t *testing.T, bits []int, taps int) {
	t.Helper()
	told, ok := impl.Follow(bits, taps)
	holdSignal(t, "Follow", told, ok, followSlow(bits, taps, false))
	back, ok := impl.UnFollow(told, taps)
	holdSignal(t, "UnFollow of Follow", back, ok, bits)
	told, ok = impl.UnFollow(bits, taps)
	holdSignal(t, "UnFollow", told, ok, followSlow(bits, taps, true))
	back, ok = impl.Follow(told, taps)
	holdSignal(t, "Follow of UnFollow", back, ok, bits)
}

func TestSymbolFollowThereAndBack(t *testing.T) {
	g := formSource(1326)
	for _, taps := range append([]int{0}, someTurns...) {
		manyBitLists(1327, func(bits []int) { followHolds(t, bits, taps) })
		shortBits(6, func(bits []int) { followHolds(t, bits, taps) })
	}
	for k := range 16 {
		followHolds(t, g.flips(60), 1<<k)
		followHolds(t, append([]int{1}, make([]int, 60)...), 1<<k)
		followHolds(t, g.flips(60), maxTurn-1<<k)
	}
	for range 500 {
		followHolds(t, g.flips(int(g.next()%200)), int(g.next()%(maxTurn+1)))
	}
}

// With one tap each bit hangs on the one so many places ahead; the sixteenth is the last that the register has.
func TestSymbolFollowReachesSixteenBack(t *testing.T) {
	g := formSource(1328)
	for k := range 16 {
		bits := g.flips(200)
		told, _ := impl.Follow(bits, 1<<k)
		back, _ := impl.UnFollow(bits, 1<<k)
		for at := range bits {
			holdInt(t, "Follow with one tap", told[at], (bits[at]+sampleAt(told, at-1-k))%2, k, at)
			holdInt(t, "UnFollow with one tap", back[at], (bits[at]+sampleAt(bits, at-1-k))%2, k, at)
		}
	}
}

// With the first tap alone to follow is to differ.
func TestSymbolFollowWithTheFirstTap(t *testing.T) {
	manyBitLists(1329, func(bits []int) {
		want, _ := impl.Differ(bits)
		got, ok := impl.Follow(bits, 1)
		holdSignal(t, "Follow with the first tap", got, ok, want)
		want, _ = impl.UnDiffer(bits)
		got, ok = impl.UnFollow(bits, 1)
		holdSignal(t, "UnFollow with the first tap", got, ok, want)
	})
}

// A bit that is hurt on the way hurts the sixteen behind it at most: then the register has forgotten it.
func TestSymbolUnFollowForgets(t *testing.T) {
	g := formSource(1330)
	for _, taps := range someTurns {
		bits := g.flips(100)
		told, _ := impl.Follow(bits, taps)
		told[30] = 1 - told[30]
		back, ok := impl.UnFollow(told, taps)
		if !ok {
			t.Fatalf("UnFollow with %d is refused", taps)
		}
		holdSignal(t, "UnFollow ahead of what is hurt", back[:30], ok, bits[:30])
		holdSignal(t, "UnFollow behind what is hurt", back[47:], ok, bits[47:])
		holdInt(t, "what is hurt", back[30], 1-bits[30], taps)
	}
}

func TestSymbolFollowThatIsRefused(t *testing.T) {
	noFollow := func(what string, bits []int, taps int) {
		t.Helper()
		got, ok := impl.Follow(bits, taps)
		noSignal(t, "Follow with "+what, got, ok)
		got, ok = impl.UnFollow(bits, taps)
		noSignal(t, "UnFollow with "+what, got, ok)
	}
	for _, taps := range noTurns {
		for _, bits := range [][]int{nil, {}, {1}, {0, 1, 1}, make([]int, maxBits), make([]int, maxBits+1), {2}} {
			noFollow("no taps", bits, taps)
		}
	}
	for _, list := range noBitLists() {
		for _, taps := range []int{0, 1, maxTurn, -1, 65536} {
			noFollow("no bits", list, taps)
		}
	}
}
