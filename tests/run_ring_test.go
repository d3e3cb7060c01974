package tests

import (
	"math"
	"slices"
	"testing"

	"loop.example/g00043/impl"
)

func drops(t *testing.T, capacity int, gives, takes []int, dropped, gaps int) {
	t.Helper()
	slowDropped, slowGaps := droppedSlow(capacity, gives, takes)
	if slowDropped != dropped || slowGaps != gaps {
		t.Errorf("by the oracle %d are dropped, %d gaps, not %d, %d", slowDropped, slowGaps, dropped, gaps)
	}
	droppedHolds(t, capacity, gives, takes)
}

func droppedHolds(t *testing.T, capacity int, gives, takes []int) {
	t.Helper()
	dropped, gaps, ok := impl.Dropped(capacity, gives, takes)
	wantDropped, wantGaps := droppedSlow(capacity, gives, takes)
	if !ok || dropped != wantDropped || gaps != wantGaps {
		t.Errorf("Dropped of %d, %v, %v is %d, %d, %v, not %d, %d", capacity, gives, takes, dropped, gaps, ok, wantDropped, wantGaps)
	}
}

func noDropped(t *testing.T, capacity int, gives, takes []int) {
	t.Helper()
	if dropped, gaps, ok := impl.Dropped(capacity, gives, takes); ok || dropped != 0 || gaps != 0 {
		t.Errorf("Dropped of %d, %v, %v is not refused: %d, %d, %v", capacity, gives, takes, dropped, gaps, ok)
	}
}

func TestDroppedByHand(t *testing.T) {
	drops(t, 3, nil, nil, 0, 0)
	drops(t, 3, []int{}, nil, 0, 0)
	drops(t, 3, []int{2, 5, 0}, []int{1, 1, 4}, 3, 2)
	drops(t, 3, []int{3}, []int{3}, 0, 0)
	drops(t, 3, []int{4}, []int{3}, 1, 0)
	drops(t, 3, []int{4}, []int{4}, 1, 1)
	drops(t, 3, []int{3}, []int{4}, 0, 1)
	drops(t, 3, []int{0}, []int{1}, 0, 1)
	drops(t, 3, []int{0, 1}, []int{0, 0}, 0, 0)
	drops(t, 3, []int{2, 1, 1}, []int{0, 0, 0}, 1, 0)
	drops(t, 3, []int{2, 2, 2}, []int{1, 1, 3}, 1, 0)
	drops(t, 3, []int{2, 2, 2}, []int{1, 0, 4}, 2, 1)
	drops(t, 1, []int{1, 1, 1}, []int{1, 0, 2}, 1, 1)
}

// What comes at a tick comes ahead of what is taken then; neither dropped samples nor gaps are made up for later.
func TestDroppedAtATick(t *testing.T) {
	drops(t, 2, []int{2, 2}, []int{2, 2}, 0, 0)
	drops(t, 2, []int{2, 1}, []int{0, 1}, 1, 0)
	drops(t, 2, []int{0, 2}, []int{1, 2}, 0, 1)
	drops(t, 2, []int{5, 0}, []int{2, 2}, 3, 2)
	drops(t, 2, []int{0, 2, 0}, []int{3, 0, 2}, 0, 3)
}

func TestDroppedOfCapacities(t *testing.T) {
	for _, capacity := range []int{1, 2, 999, maxRing} {
		drops(t, capacity, []int{capacity}, []int{capacity}, 0, 0)
		drops(t, capacity, []int{maxRing, 0}, []int{0, maxRing}, maxRing-capacity, maxRing-capacity)
		drops(t, capacity, []int{capacity, 1}, []int{0, 0}, 1, 0)
		drops(t, capacity, []int{capacity, 0}, []int{0, min(capacity+1, maxRing)}, 0, min(capacity+1, maxRing)-capacity)
	}
	for _, capacity := range []int{0, -1, maxRing + 1, maxRing + 2, -maxRing, 1 << 32, 1<<32 + 1, 1 - 1<<32, math.MaxInt, math.MinInt, math.MinInt + 1} {
		noDropped(t, capacity, nil, nil)
		noDropped(t, capacity, []int{1}, []int{1})
		noDropped(t, capacity, []int{1}, []int{2, 3})
	}
}

func TestDroppedOfLists(t *testing.T) {
	for _, c := range [][2]int{{0, 1}, {1, 0}, {1, 2}, {2, 1}, {maxSignal, maxSignal - 1}, {maxSignal - 1, maxSignal}, {maxSignal, maxSignal + 1}, {maxSignal + 1, maxSignal}, {maxSignal + 1, maxSignal + 1}, {5000, 5000}} {
		noDropped(t, 3, make([]int, c[0]), make([]int, c[1]))
		noDropped(t, maxRing, make([]int, c[0]), make([]int, c[1]))
	}
	full := slices.Repeat([]int{maxRing}, maxSignal)
	drops(t, maxRing, full, full, 0, 0)
	drops(t, 1, full, full, 999*maxSignal, 999*maxSignal)
	drops(t, maxRing, full, make([]int, maxSignal), maxRing*(maxSignal-1), 0)
	drops(t, maxRing, make([]int, maxSignal), full, 0, maxRing*maxSignal)
}

// A number at the beginning, at the end or between, of the one list or of the other one.
func TestDroppedOfWrongNumbers(t *testing.T) {
	good := []int{0, maxRing, 1}
	droppedHolds(t, 5, good, good)
	for _, bad := range []int{-1, maxRing + 1, -2, maxRing + 2, 1 << 32, 1<<32 + 1, math.MaxInt, math.MinInt} {
		for at := range good {
			wrong := slices.Clone(good)
			wrong[at] = bad
			for _, capacity := range []int{1, 5, maxRing, 0} {
				noDropped(t, capacity, wrong, good)
				noDropped(t, capacity, good, wrong)
				noDropped(t, capacity, wrong, wrong)
			}
		}
		long := make([]int, maxSignal)
		long[maxSignal-1] = bad
		noDropped(t, 5, long, make([]int, maxSignal))
		noDropped(t, 5, make([]int, maxSignal), long)
	}
}

// Promise 23: what a ring drops is counted.
func TestDroppedByChance(t *testing.T) {
	g := formSource(2151)
	for range 400 {
		most := []int{1, 3, 8, maxRing}[g.below(4)]
		count := g.below(40)
		gives, takes := []int{}, []int{}
		for range count {
			gives, takes = append(gives, g.below(most+1)), append(takes, g.below(most+1))
		}
		droppedHolds(t, 1+g.below(min(maxRing, 2*most)), gives, takes)
	}
}
