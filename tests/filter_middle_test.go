package tests

import (
	"math"
	"slices"
	"testing"

	"loop.example/g00043/impl"
)

var noSizes = []int{0, 2, 4, 16, 30, 32, 33, 34, 35, -1, -2, -3, -31, 63, 1 << 32, 1<<32 + 1, math.MaxInt, math.MinInt, math.MinInt + 1}

func TestFilterMiddleByHand(t *testing.T) {
	const most = maxSample
	for _, c := range []struct {
		size       int
		list, want []int
	}{
		{1, nil, nil}, {31, nil, nil}, {1, []int{7}, []int{7}}, {3, []int{-7}, []int{-7}}, {31, []int{7}, []int{7}}, {1, []int{9, 1, 5, 7}, []int{9, 1, 5, 7}},
		{3, []int{9, 1, 5, 7}, []int{9, 5, 5, 7}}, {3, []int{1, 9}, []int{1, 9}}, {3, []int{0, 0, 100, 0, 0}, []int{0, 0, 0, 0, 0}}, {3, []int{100, 0, 0, 0, 0}, []int{100, 0, 0, 0, 0}}, {3, []int{0, 0, 0, 0, -5}, []int{0, 0, 0, 0, -5}}, {3, []int{5, 5, 1, 1}, []int{5, 5, 1, 1}},
		{5, []int{9, 1, 5, 7}, []int{9, 7, 7, 7}}, {5, []int{1, 9}, []int{1, 9}}, {5, []int{1, 2, 3, 4, 5}, []int{1, 2, 3, 4, 5}}, {5, []int{3, 1, 2}, []int{3, 2, 2}}, {31, []int{1, 2, 3}, []int{1, 2, 3}}, {7, []int{4, -4, 0}, []int{4, 0, 0}},
		{3, []int{most, -most, most, -most}, []int{most, most, -most, -most}}, {3, []int{-most, most, 0}, []int{-most, 0, 0}},
	} {
		got, ok := impl.Middle(c.list, c.size)
		holdSignal(t, "Middle by hand", got, ok, c.want)
		holdSignal(t, "the oracle by hand", middleSlow(c.list, c.size), true, c.want)
	}
}

func middleHolds(t *testing.T, list []int, size int) {
	t.Helper()
	got, ok := impl.Middle(list, size)
	holdSignal(t, "Middle", got, ok, middleSlow(list, size))
}

func TestFilterMiddleOfAllSizes(t *testing.T) {
	g := formSource(1041)
	for size := 1; size <= 31; size += 2 {
		for _, n := range []int{0, 1, 2, 3, size / 2, size/2 + 1, size - 1, size, size + 1, 2 * size, 60} {
			for _, most := range []int{1, 3, 1000, maxSample} {
				middleHolds(t, g.signal(most, n), size)
			}
			middleHolds(t, g.loud(maxSample, n), size)
			middleHolds(t, g.atEnds(maxSample, n), size)
		}
	}
	for _, size := range []int{1, 3, 31} {
		middleHolds(t, g.signal(maxSample, maxSignal), size)
		shortSignals(1, 6, func(list []int) { middleHolds(t, list, size) })
		shortSignals(2, 4, func(list []int) { middleHolds(t, list, size) })
	}
	shortSignals(1, 6, func(list []int) { middleHolds(t, list, 5) })
}

func TestFilterMiddleOfOrder(t *testing.T) {
	g := formSource(1042)
	for size := 1; size <= 31; size += 2 {
		for _, n := range []int{1, 5, 40, maxSignal} {
			for _, x := range []int{0, 5, -maxSample, maxSample} {
				still := slices.Repeat([]int{x}, n)
				got, ok := impl.Middle(still, size)
				holdSignal(t, "Middle of a still signal", got, ok, still)
			}
			up := g.signal(50, n)
			slices.Sort(up)
			got, ok := impl.Middle(up, size)
			holdSignal(t, "Middle of what goes up", got, ok, up)
			got, ok = impl.Middle(backwards(up), size)
			holdSignal(t, "Middle of what goes down", got, ok, backwards(up))
			list := g.signal(1000, n)
			here, ok := impl.Middle(list, size)
			there, okThere := impl.Middle(backwards(list), size)
			holdSignal(t, "Middle from behind", backwards(there), ok && okThere, here)
		}
	}
	list := g.signal(maxSample, maxSignal)
	got, ok := impl.Middle(list, 1)
	holdSignal(t, "Middle of one", got, ok, list)
}

func TestFilterMiddleThatIsRefused(t *testing.T) {
	for _, list := range noSignals() {
		for _, size := range append(noSizes, 1, 3, 31) {
			got, ok := impl.Middle(list, size)
			noSignal(t, "Middle of no signal", got, ok)
		}
	}
	for _, size := range noSizes {
		for _, list := range [][]int{nil, {}, {1}, {1, 2, 3}, make([]int, maxSignal)} {
			got, ok := impl.Middle(list, size)
			noSignal(t, "Middle of no size", got, ok)
		}
	}
}
