package tests

import (
	"math"
	"slices"
	"testing"

	"loop.example/g00043/impl"
)

func TestLiftOnceByHand(t *testing.T) {
	const most = maxSample
	for _, c := range []struct {
		kind            int
		list, low, high []int
	}{
		{impl.LiftMean, []int{}, []int{}, []int{}}, {impl.LiftMean, []int{-7}, []int{-7}, []int{}}, {impl.LiftMean, []int{5, 8, 1, 0, 7}, []int{6, 0, 7}, []int{3, -1}},
		{impl.LiftMean, []int{0, -1}, []int{-1}, []int{-1}}, {impl.LiftMean, []int{-1, 0}, []int{-1}, []int{1}}, {impl.LiftMean, []int{3, 0}, []int{1}, []int{-3}}, {impl.LiftMean, []int{-3, 0, -4}, []int{-2, -4}, []int{3}},
		{impl.LiftMean, []int{most, -most}, []int{0}, []int{-2 * most}}, {impl.LiftMean, []int{-most, most}, []int{0}, []int{2 * most}}, {impl.LiftMean, []int{most, 1 - most}, []int{0}, []int{1 - 2*most}}, {impl.LiftMean, []int{-most, most - 1}, []int{-1}, []int{2*most - 1}},

		{impl.LiftFive, []int{}, []int{}, []int{}}, {impl.LiftFive, []int{-7}, []int{-7}, []int{}}, {impl.LiftFive, []int{1, 2, 3, 10, 5}, []int{1, 5, 8}, []int{0, 6}},
		{impl.LiftFive, []int{0, -1}, []int{0}, []int{-1}}, {impl.LiftFive, []int{0, -2}, []int{-1}, []int{-2}}, {impl.LiftFive, []int{0, 1}, []int{1}, []int{1}}, {impl.LiftFive, []int{0, -3}, []int{-1}, []int{-3}}, {impl.LiftFive, []int{-1, -1}, []int{-1}, []int{0}},
		{impl.LiftFive, []int{1, 2, 0}, []int{2, 1}, []int{2}}, {impl.LiftFive, []int{-1, 2, 0}, []int{1, 2}, []int{3}}, {impl.LiftFive, []int{0, 0, -1}, []int{1, 0}, []int{1}}, {impl.LiftFive, []int{0, 0, 1}, []int{0, 1}, []int{0}},
		{impl.LiftFive, []int{0, 8, 0, 0}, []int{4, 2}, []int{8, 0}}, {impl.LiftFive, []int{0, 0, 0, 8}, []int{0, 2}, []int{0, 8}}, {impl.LiftFive, []int{0, 0, 8, 0}, []int{-2, 5}, []int{-4, -8}},
		{impl.LiftFive, []int{most, -most, most}, []int{0, 0}, []int{-2 * most}}, {impl.LiftFive, []int{-most, most, most, most, -most}, []int{-most / 2, 3 * most / 2, -most / 2}, []int{most, most}},

		{impl.LiftNine, []int{}, []int{}, []int{}}, {impl.LiftNine, []int{-7}, []int{-7}, []int{}}, {impl.LiftNine, []int{0, 0, 16, 0, 0, 0}, []int{-4, 12, -2}, []int{-9, -9, 1}},
		{impl.LiftNine, []int{0, 0, -1}, []int{0, -1}, []int{0}}, {impl.LiftNine, []int{0, 0, -2}, []int{1, -1}, []int{1}}, {impl.LiftNine, []int{0, 0, 1}, []int{0, 1}, []int{-1}}, {impl.LiftNine, []int{0, 0, 0}, []int{0, 0}, []int{0}},
		{impl.LiftNine, []int{16, 0}, []int{8}, []int{-16}}, {impl.LiftNine, []int{-1, -1}, []int{-1}, []int{0}}, {impl.LiftNine, []int{16, 0, 0, 0, 0, 0, 0, 0}, []int{12, -2, 0, 0}, []int{-8, 1, 0, 0}}, {impl.LiftNine, []int{0, 0, 0, 0, 0, 0, 16, 0}, []int{0, 0, -2, 10}, []int{0, 1, -8, -17}},
		{impl.LiftNine, []int{-most, most, most, -most, most, most, -most}, []int{-most / 2, 11 * most / 16, 11 * most / 16, -most / 2}, []int{most, -9 * most / 4, most}},
	} {
		low, high, ok := impl.LiftOnce(c.kind, c.list)
		holdBoth(t, "LiftOnce by hand", low, high, ok, c.low, c.high)
		wantLow, wantHigh := onceSlow(c.kind, c.list)
		holdBoth(t, "the oracle by hand", wantLow, wantHigh, true, c.low, c.high)
		back, ok := impl.LiftBack(c.kind, c.low, c.high)
		holdSignal(t, "LiftBack by hand", back, ok, c.list)
	}
	for _, kind := range liftings {
		low, high, ok := impl.LiftOnce(kind, nil)
		holdBoth(t, "LiftOnce of nothing", low, high, ok, nil, nil)
		back, ok := impl.LiftBack(kind, nil, nil)
		holdSignal(t, "LiftBack of nothing", back, ok, nil)
	}
}

func onceHolds(t *testing.T, kind int, list []int) {
	t.Helper()
	low, high, ok := impl.LiftOnce(kind, list)
	wantLow, wantHigh := onceSlow(kind, list)
	holdBoth(t, "LiftOnce", low, high, ok, wantLow, wantHigh)
	back, ok := impl.LiftBack(kind, low, high)
	holdSignal(t, "LiftBack of LiftOnce", back, ok, list)
}

func TestLiftOnceThereAndBack(t *testing.T) {
	for _, kind := range liftings {
		manySignals(911, maxSample, func(list []int) { onceHolds(t, kind, list) })
		shortSignals(3, 4, func(list []int) { onceHolds(t, kind, list) })
		shortSignals(1, 6, func(list []int) { onceHolds(t, kind, list) })
	}
}

func TestLiftOnceThatIsRefused(t *testing.T) {
	for _, kind := range liftings {
		for _, list := range noSignals() {
			low, high, ok := impl.LiftOnce(kind, list)
			noBoth(t, "LiftOnce of no signal", low, high, ok)
		}
	}
	for _, kind := range noLiftings {
		for _, list := range append(noSignals(), nil, []int{}, []int{5}, []int{5, 6}, []int{1, 2, 3}) {
			low, high, ok := impl.LiftOnce(kind, list)
			noBoth(t, "LiftOnce of no kind", low, high, ok)
		}
	}
}

// backHolds asks the oracle to lift what has come back.
func backHolds(t *testing.T, kind int, low, high []int) {
	t.Helper()
	back, ok := impl.LiftBack(kind, low, high)
	if !ok || len(back) != len(low)+len(high) {
		t.Fatalf("LiftBack by %d of %d low and %d high ones is %v %v", kind, len(low), len(high), back, ok)
	}
	gotLow, gotHigh := onceSlow(kind, back)
	holdBoth(t, "what LiftBack tells, lifted,", gotLow, gotHigh, ok, low, high)
}

func TestLiftBackOfAnyNumbers(t *testing.T) {
	for _, kind := range liftings {
		manySignals(912, maxLifted, func(list []int) {
			split := (len(list) + 1) / 2
			backHolds(t, kind, list[:split], list[split:])
		})
		shortSignals(4, 3, func(list []int) {
			split := (len(list) + 1) / 2
			backHolds(t, kind, list[:split], list[split:])
		})
	}
}

func TestLiftBackOfCounts(t *testing.T) {
	for _, kind := range liftings {
		for low := range 12 {
			for high := range 12 {
				back, ok := impl.LiftBack(kind, make([]int, low), make([]int, high))
				if low == high || low == high+1 {
					holdSignal(t, "LiftBack of noughts", back, ok, make([]int, low+high))
				} else {
					noSignal(t, "LiftBack of such counts", back, ok)
				}
			}
		}
		for _, c := range [][2]int{{256, 256}, {256, 255}, {255, 255}} {
			back, ok := impl.LiftBack(kind, make([]int, c[0]), make([]int, c[1]))
			holdSignal(t, "LiftBack of many", back, ok, make([]int, c[0]+c[1]))
		}
		for _, c := range [][2]int{{257, 255}, {257, 256}, {257, 257}, {255, 256}, {255, 257}, {258, 257}, {512, 0}, {0, 512}, {512, 512}, {2, 0}, {0, 1}, {5000, 5000}} {
			back, ok := impl.LiftBack(kind, make([]int, c[0]), make([]int, c[1]))
			noSignal(t, "LiftBack of too many, or of such counts", back, ok)
		}
	}
}

func TestLiftBackAtTheLimits(t *testing.T) {
	for _, kind := range liftings {
		for _, x := range []int{maxLifted, -maxLifted, maxLifted - 1, 1 - maxLifted} {
			backHolds(t, kind, []int{x}, nil)
			for at := range 5 {
				list := []int{1, -2, 3, -4, 5}
				list[at] = x
				backHolds(t, kind, list[:3], list[3:])
			}
			backHolds(t, kind, slices.Repeat([]int{x}, 256), slices.Repeat([]int{x}, 256))
			backHolds(t, kind, slices.Repeat([]int{x}, 256), slices.Repeat([]int{-x}, 255))
		}
		for _, x := range []int{maxLifted + 1, -maxLifted - 1, 1 << 40, -1 << 40, math.MaxInt, math.MinInt, math.MinInt + 1} {
			back, ok := impl.LiftBack(kind, []int{x}, nil)
			noSignal(t, "LiftBack of one beyond", back, ok)
			for at := range 5 {
				list := []int{1, -2, 3, -4, 5}
				list[at] = x
				back, ok := impl.LiftBack(kind, list[:3], list[3:])
				noSignal(t, "LiftBack of a number beyond", back, ok)
			}
		}
	}
}

func TestLiftBackOfNoKind(t *testing.T) {
	for _, kind := range noLiftings {
		for _, c := range [][2][]int{{nil, nil}, {{1}, nil}, {{1}, {2}}, {{1, 2}, {3}}, {{1}, {2, 3}}} {
			back, ok := impl.LiftBack(kind, c[0], c[1])
			noSignal(t, "LiftBack of no kind", back, ok)
		}
	}
}

// Each low number of a still signal is the sample itself: what is mended by high numbers of 0 is nothing.
func TestLiftOnceOfOneAndTheSame(t *testing.T) {
	for _, kind := range liftings {
		for _, x := range []int{0, 1, -1, 2, -2, 3, -3, 7, -8, 1000, -1001, maxSample - 1, 1 - maxSample, maxSample, -maxSample} {
			for n := range maxSignal + 1 {
				low, high, ok := impl.LiftOnce(kind, slices.Repeat([]int{x}, n))
				holdBoth(t, "LiftOnce of a still signal", low, high, ok, slices.Repeat([]int{x}, (n+1)/2), make([]int, n/2))
			}
		}
	}
}
