package tests

import (
	"slices"
	"testing"

	"loop.example/g00043/impl"
)

func packed(t *testing.T, list []int) []byte {
	t.Helper()
	b, ok := impl.PackFrame(list)
	if !ok {
		t.Fatalf("PackFrame of %v is refused", list)
	}
	return b
}

func frameHolds(t *testing.T, list []int) {
	t.Helper()
	b, ok := impl.PackFrame(list)
	holdBytes(t, "PackFrame", b, ok, packFrameSlow(list))
}

func TestPackFrameByHand(t *testing.T) {
	for _, c := range []struct {
		list []int
		want []byte
	}{
		{[]int{0}, []byte{70, 0, 0, 0b00000000}},
		{[]int{-1}, []byte{70, 0, 0, 0b10000000}},
		{[]int{5}, []byte{70, 0, 2, 0b11010000}},
		{[]int{5, 5, 5}, []byte{70, 2, 33, 0b11111000, 0b00000000}},
		{[]int{1, 2, 3, 4}, []byte{70, 3, 64, 0b11011000}},
		{[]int{1, 2, 4, 7, 11}, []byte{70, 4, 96, 0b11011011, 0b00000000}},
		{[]int{maxSample}, []byte{70, 0, 30, 0b10110111, 0b00110101, 0b10010100, 0b00000000}},
		{[]int{-maxSample}, []byte{70, 0, 30, 0b10110111, 0b00110101, 0b10010011, 0b11111111}},
		{make([]int, 8), []byte{70, 7, 0, 0}},
		{make([]int, 9), []byte{70, 8, 0, 0, 0}},
	} {
		b, ok := impl.PackFrame(c.list)
		holdBytes(t, "PackFrame", b, ok, sealed(c.want))
		holdBytes(t, "the oracle", packFrameSlow(c.list), true, sealed(c.want))
	}
	b, ok := impl.PackFrame([]int{0})
	holdBytes(t, "PackFrame", b, ok, []byte{70, 0, 0, 0, byte(crcByRule([]byte{70, 0, 0, 0}) >> 8), byte(crcByRule([]byte{70, 0, 0, 0}))})
}

func TestPackFrameAgainstASearch(t *testing.T) {
	shortSignals(2, 5, func(list []int) {
		if len(list) > 0 {
			frameHolds(t, list)
		}
	})
	manyBlocks(1741, func(list []int) { frameHolds(t, list) })
}

// Blocks are met that each order fits best, and where a later order is as good as the one that is taken; so with k.
func TestPackFrameTakesTheFirstOfTheBest(t *testing.T) {
	taken, ties, lows := map[int]int{}, map[int]int{}, map[int]int{}
	manyBlocks(1742, func(list []int) {
		b := packed(t, list)
		order, k := int(b[2])/32, int(b[2])%32
		left, _ := impl.Guess(order, list)
		best, least := impl.BestRice(left)
		if k != best {
			t.Errorf("the frame of %v has k %d, not %d", list, k, best)
		}
		for other := range min(len(list), 4) {
			left, _ := impl.Guess(other, list)
			k, bits := impl.BestRice(left)
			if k >= 0 && (bits < least || other < order && bits == least) {
				t.Errorf("the frame of %v has order %d with %d bits, but %d has %d", list, order, least, other, bits)
			}
			if k >= 0 && other > order && bits == least {
				ties[order]++
			}
		}
		taken[order]++
		lows[k]++
	})
	if len(taken) != 4 || len(ties) < 3 || len(lows) < 20 {
		t.Errorf("orders %v, ties %v, k %v: too few are met", taken, ties, lows)
	}
}

// An order is taken only while it is below how many samples there are, though a greater one would tell the same.
func TestPackFrameOrdersOfFewSamples(t *testing.T) {
	g := formSource(1743)
	for n := 1; n <= 4; n++ {
		for range 300 {
			list := g.curve(int(g.next()%4), int(1+g.next()%9), n)
			if order := int(packed(t, list)[2]) / 32; order >= n {
				t.Errorf("the frame of %v has order %d", list, order)
			}
			frameHolds(t, list)
		}
	}
}

// An order that leaves a number beyond 10^9 has no BestRice, and another one is taken.
func TestPackFrameWhereAnOrderHasNone(t *testing.T) {
	high, low := maxSample, -maxSample
	for _, list := range [][]int{{high, low}, {high, low, high}, {low, high, high, high}, slices.Repeat([]int{high, low}, 64), append([]int{low}, slices.Repeat([]int{high}, 127)...), {high, 0, high, 0}, {0, high, high, high, high, high}, {high, -1, -1, -1, -1, -1}, {high, 0, 0, 0, 0, 0}} {
		frameHolds(t, list)
		for _, order := range []int{0, 1, 2, 3} {
			left, _ := impl.Guess(order, list)
			bestHolds(t, left)
		}
	}
	if order := packed(t, slices.Repeat([]int{high, low}, 64))[2] / 32; order != 0 {
		t.Errorf("the order of alternating ends is %d", order)
	}
	if order := packed(t, append([]int{0}, slices.Repeat([]int{high}, 127)...))[2] / 32; order != 1 {
		t.Errorf("the order of a step is %d", order)
	}
}

func TestPackFrameFillsWithNoughts(t *testing.T) {
	seen := map[int]bool{}
	manyBlocks(1744, func(list []int) {
		b := packed(t, list)
		order, k := int(b[2])/32, int(b[2])%32
		left, _ := impl.Guess(order, list)
		bits, _ := impl.Rice(k, left)
		all := bitsOfBytes(b[3 : len(b)-2])
		holdSignal(t, "the bits of a frame", all[:len(bits)], true, bits)
		holdSignal(t, "the filling", all[len(bits):], len(all)-len(bits) < 8, make([]int, len(all)-len(bits)))
		seen[len(bits)%8] = true
	})
	if len(seen) != 8 {
		t.Errorf("fillings are met for %v alone", seen)
	}
}

func TestPackFrameAtItsLimits(t *testing.T) {
	g := formSource(1745)
	for _, list := range [][]int{make([]int, maxFrame), slices.Repeat([]int{maxSample, -maxSample}, maxFrame/2), g.signal(maxSample, maxFrame)} {
		frameHolds(t, list)
		b, ok := impl.PackFrame(append(slices.Clone(list), 0))
		noBytes(t, "PackFrame of one sample more", b, ok)
		b, ok = impl.PackFrame(append(slices.Clone(list), list...))
		noBytes(t, "PackFrame of far more samples", b, ok)
	}
	holdInt(t, "the length of the longest frame", len(packed(t, slices.Repeat([]int{maxSample, -maxSample}, maxFrame/2))), 3+512+2)
	b, ok := impl.PackFrame(nil)
	noBytes(t, "PackFrame of nothing", b, ok)
	b, ok = impl.PackFrame([]int{})
	noBytes(t, "PackFrame of nothing", b, ok)
	for _, x := range beyond(maxSample) {
		for _, list := range [][]int{{x}, {x, 0}, {0, x}, {x, x, x, x}, {maxSample, x, maxSample}, append(make([]int, maxFrame-1), x)} {
			b, ok := impl.PackFrame(list)
			noBytes(t, "PackFrame of what is no sample", b, ok)
		}
	}
}

func TestPackBlocksComeBackFromFrames(t *testing.T) {
	g := formSource(1746)
	manyBlocks(1747, func(list []int) {
		b := packed(t, list)
		got, next, code := impl.OpenFrame(b, 0)
		holdFrame(t, "OpenFrame of PackFrame", got, next, code, list, len(b), impl.FrameOk)
		ahead, behind := g.bytes(int(g.next()%20)), g.bytes(int(g.next()%20))
		got, next, code = impl.OpenFrame(slices.Concat(ahead, b, behind), len(ahead))
		holdFrame(t, "OpenFrame between other bytes", got, next, code, list, len(ahead)+len(b), impl.FrameOk)
	})
}

// Two blocks have two frames: from one of them only one comes back.
func TestPackFramesTellBlocksApart(t *testing.T) {
	seen := map[string][]int{}
	shortSignals(3, 5, func(list []int) {
		if len(list) == 0 {
			return
		}
		b := packed(t, list)
		if other, ok := seen[string(b)]; ok {
			t.Errorf("%v and %v have one frame", list, other)
		}
		seen[string(b)] = list
	})
}
