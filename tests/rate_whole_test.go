package tests

import (
	"math"
	"slices"
	"testing"

	"loop.example/g00043/impl"
)

func TestRateUpByHand(t *testing.T) {
	const most = maxSample
	for _, c := range []struct {
		by         int
		list, want []int
	}{
		{1, nil, nil}, {2, nil, nil}, {maxRate, []int{}, nil}, {1, []int{7}, []int{7}}, {2, []int{7}, []int{7, 0}}, {3, []int{-7}, []int{-7, 0, 0}}, {maxRate, []int{7}, []int{7, 0, 0, 0, 0, 0, 0, 0, 0, 0, 0, 0, 0, 0, 0, 0}},
		{1, []int{4, 5, -6}, []int{4, 5, -6}}, {2, []int{4, 5, -6}, []int{4, 0, 5, 0, -6, 0}}, {3, []int{4, 5}, []int{4, 0, 0, 5, 0, 0}}, {4, []int{0, 5}, []int{0, 0, 0, 0, 5, 0, 0, 0}}, {2, []int{most, -most}, []int{most, 0, -most, 0}},
	} {
		got, ok := impl.Up(c.list, c.by)
		holdSignal(t, "Up by hand", got, ok, c.want)
		holdSignal(t, "the oracle by hand", upSlow(c.list, c.by), true, c.want)
	}
}

func TestRateDownByHand(t *testing.T) {
	const most = maxSample
	five := []int{1, 2, 3, 4, 5}
	for _, c := range []struct {
		by, phase  int
		list, want []int
	}{
		{1, 0, nil, nil}, {2, 0, nil, nil}, {2, 1, nil, nil}, {maxRate, maxRate - 1, []int{}, nil}, {1, 0, []int{7}, []int{7}}, {2, 0, []int{7}, []int{7}}, {2, 1, []int{7}, nil}, {maxRate, 0, []int{7}, []int{7}}, {maxRate, maxRate - 1, []int{7}, nil},
		{1, 0, five, five}, {2, 0, five, []int{1, 3, 5}}, {2, 1, five, []int{2, 4}}, {3, 0, five, []int{1, 4}}, {3, 1, five, []int{2, 5}}, {3, 2, five, []int{3}}, {4, 0, five, []int{1, 5}}, {4, 3, five, []int{4}}, {5, 0, five, []int{1}}, {5, 4, five, []int{5}}, {6, 4, five, []int{5}}, {6, 5, five, nil}, {maxRate, 4, five, []int{5}}, {maxRate, 5, five, nil},
		{2, 0, []int{most, 1, -most}, []int{most, -most}}, {2, 1, []int{1, most, 2, -most}, []int{most, -most}},
	} {
		got, ok := impl.Down(c.list, c.by, c.phase)
		holdSignal(t, "Down by hand", got, ok, c.want)
		holdSignal(t, "the oracle by hand", downSlow(c.list, c.by, c.phase), true, c.want)
	}
}

func TestRateUpAndDown(t *testing.T) {
	manySignals(1101, maxSample, func(list []int) {
		for by := 1; by <= maxRate; by++ {
			if len(list)*by <= maxSignal {
				got, ok := impl.Up(list, by)
				holdSignal(t, "Up", got, ok, upSlow(list, by))
			}
			for phase := range by {
				got, ok := impl.Down(list, by, phase)
				holdSignal(t, "Down", got, ok, downSlow(list, by, phase))
			}
		}
	})
}

func TestRateUpAtTheLimits(t *testing.T) {
	g := formSource(1102)
	for by := 1; by <= maxRate; by++ {
		most := maxSignal / by
		for _, list := range [][]int{g.signal(maxSample, most), g.atEnds(maxSample, most), g.signal(maxSample, most-1)} {
			got, ok := impl.Up(list, by)
			holdSignal(t, "Up of as many as there may be", got, ok, upSlow(list, by))
		}
		for _, n := range []int{most + 1, most + 2, 2*most + 1, maxSignal + 1} {
			got, ok := impl.Up(make([]int, n), by)
			noSignal(t, "Up of too many", got, ok)
			got, ok = impl.Up(slices.Repeat([]int{1}, n), by)
			noSignal(t, "Up of too many", got, ok)
		}
	}
	full, ok := impl.Up(slices.Repeat([]int{-1}, maxSignal/maxRate), maxRate)
	if !ok || len(full) != maxSignal {
		t.Errorf("Up of just MaxSignal is %v %v", full, ok)
	}
}

func TestRateDownOfMaxSignal(t *testing.T) {
	g := formSource(1103)
	list := g.atEnds(maxSample, maxSignal)
	for by := 1; by <= maxRate; by++ {
		for phase := range by {
			got, ok := impl.Down(list, by, phase)
			holdSignal(t, "Down of MaxSignal", got, ok, downSlow(list, by, phase))
			got, ok = impl.Down(append(slices.Clone(list), 0), by, phase)
			noSignal(t, "Down of one more", got, ok)
		}
	}
}

func TestRateUpThatIsRefused(t *testing.T) {
	for _, list := range noSignals() {
		for _, by := range []int{1, 2, maxRate, 0, -1, maxRate + 1} {
			got, ok := impl.Up(list, by)
			noSignal(t, "Up of no signal", got, ok)
		}
	}
	for _, list := range [][]int{nil, {}, {1}, {1, 2, 3}, make([]int, maxSignal)} {
		for _, by := range noRatesOfWhole {
			got, ok := impl.Up(list, by)
			noSignal(t, "Up by no rate", got, ok)
		}
	}
}

func TestRateDownThatIsRefused(t *testing.T) {
	for _, list := range noSignals() {
		for _, by := range []int{1, 2, maxRate} {
			for _, phase := range []int{0, by - 1, by, -1} {
				got, ok := impl.Down(list, by, phase)
				noSignal(t, "Down of no signal", got, ok)
			}
		}
	}
	for _, list := range [][]int{nil, {}, {1}, {1, 2, 3}, make([]int, maxSignal)} {
		for _, by := range noRatesOfWhole {
			for _, phase := range []int{0, 1, -1, maxRate - 1, by - 1, by} {
				got, ok := impl.Down(list, by, phase)
				noSignal(t, "Down by no rate", got, ok)
			}
		}
		for by := 1; by <= maxRate; by++ {
			for _, phase := range []int{-1, by, by + 1, -by, 2 * by, 1 << 32, -1 << 32, math.MaxInt, math.MinInt, math.MinInt + 1} {
				got, ok := impl.Down(list, by, phase)
				noSignal(t, "Down from no phase", got, ok)
			}
		}
	}
}

// What is made denser and thinned is itself; of the places between there is nothing left but noughts.
func TestRateDownOfUp(t *testing.T) {
	g := formSource(1104)
	for by := 1; by <= maxRate; by++ {
		for _, n := range []int{0, 1, 2, 3, 10, maxSignal/by - 1, maxSignal / by} {
			list := g.atEnds(maxSample, n)
			dense, okUp := impl.Up(list, by)
			for phase := range by {
				want := make([]int, n)
				if phase == 0 {
					want = list
				}
				got, ok := impl.Down(dense, by, phase)
				holdSignal(t, "Down of Up", got, ok && okUp, want)
			}
		}
	}
}

// What all phases leave, laid beside one another, is the list.
func TestRateDownOfAllPhases(t *testing.T) {
	g := formSource(1105)
	for by := 1; by <= maxRate; by++ {
		for _, n := range []int{0, 1, by - 1, by, by + 1, 100, maxSignal} {
			list, again := g.signal(maxSample, n), make([]int, n)
			for phase := range by {
				left, ok := impl.Down(list, by, phase)
				if !ok {
					t.Fatalf("Down of %d by %d from %d is refused", n, by, phase)
				}
				for k, x := range left {
					again[phase+k*by] = x
				}
			}
			holdSignal(t, "what all phases leave", again, true, list)
		}
	}
}
