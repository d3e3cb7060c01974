package tests

import (
	"math"
	"slices"
	"testing"

	"loop.example/g00043/impl"
)

func TestDetectCrossingsByHand(t *testing.T) {
	const most = maxSample
	for _, c := range []struct {
		list []int
		band int
		want []int
	}{
		{[]int{0, 3, 1, -1, -3, -5, 4}, 2, []int{4, 6}}, {nil, 0, nil}, {[]int{}, 5, nil}, {[]int{5}, 0, nil}, {[]int{-5}, 0, nil}, {[]int{0}, 0, nil}, {[]int{5, -5}, 0, []int{1}}, {[]int{-5, 5}, 0, []int{1}}, {[]int{5, 6, 7}, 0, nil}, {[]int{-5, -6, -7}, 0, nil}, {[]int{0, 0, 0}, 0, nil}, {[]int{1, 0, -1}, 0, []int{2}}, {[]int{1, 0, 1}, 0, nil}, {[]int{-1, 0, 0, 1, 0, -1}, 0, []int{3, 5}},
		{[]int{1, -1}, 1, nil}, {[]int{2, -1}, 1, nil}, {[]int{2, -2}, 1, []int{1}}, {[]int{1, -2}, 1, nil}, {[]int{-2, 1}, 1, nil}, {[]int{-2, 2}, 1, []int{1}}, {[]int{2, -2, 2, -2}, 1, []int{1, 2, 3}}, {[]int{2, -2, 2, -2}, 2, nil}, {[]int{3, -2, 2, -3}, 2, []int{3}}, {[]int{3, -3, 2, -3, 3}, 2, []int{1, 4}}, {[]int{3, 0, 0, -3, 0, -3, 3}, 2, []int{3, 6}},
		{[]int{0, 0, 5, -5}, 0, []int{3}}, {[]int{1, -1, 1, 5, 1, -5}, 2, []int{5}}, {[]int{1, -1, 1, -5, 1, 5}, 2, []int{5}}, {[]int{1, -1, 1}, 2, nil}, {[]int{5, 5, -5, -5, -5, 5}, 0, []int{2, 5}}, {[]int{1, -1, 1, -1}, 0, []int{1, 2, 3}},
		{[]int{most, -most}, most, nil}, {[]int{most, -most, most}, most - 1, []int{1, 2}}, {[]int{most, 1 - most}, most - 1, nil}, {[]int{most, -most}, most + 1, nil}, {[]int{most, -most}, math.MaxInt, nil}, {[]int{most, -most}, 1 << 32, nil}, {[]int{most, -most}, 1<<32 + 1, nil},
	} {
		holdSignal(t, "Crossings by hand", impl.Crossings(c.list, c.band), true, c.want)
		holdSignal(t, "the oracle by hand", crossingsSlow(c.list, c.band), true, c.want)
	}
}

func crossingsHold(t *testing.T, list []int, band int) {
	t.Helper()
	holdSignal(t, "Crossings", impl.Crossings(list, band), true, crossingsSlow(list, band))
}

func TestDetectCrossingsOfShortLists(t *testing.T) {
	shortSignals(3, 5, func(list []int) {
		for band := range 5 {
			crossingsHold(t, list, band)
		}
	})
}

func TestDetectCrossingsOfManySignals(t *testing.T) {
	g := formSource(1231)
	manySignals(1232, maxSample, func(list []int) {
		for _, band := range []int{0, 1, 2, 3, 20, 50000, maxSample / 2, maxSample - 1, maxSample, maxSample + 1, 1 << 32, 1 << 62, math.MaxInt} {
			crossingsHold(t, list, band)
		}
		if len(list) > 0 {
			some := list[g.next()%uint64(len(list))]
			size := max(some, -some)
			crossingsHold(t, list, size)
			crossingsHold(t, list, size+1)
			crossingsHold(t, list, max(size-1, 0))
		}
	})
}

// Each place that is told is beyond the band, on the other side than the one told ahead; and where nothing is told, no side changes.
func TestDetectCrossingsAreSuch(t *testing.T) {
	g := formSource(1233)
	for range 300 {
		list, band := g.signal(10, int(g.next()%80)), int(g.next()%8)
		changes := impl.Crossings(list, band)
		side := 0
		for at, x := range list {
			if slices.Contains(changes, at) {
				if max(x, -x) <= band || side == 0 || side > 0 == (x > 0) {
					t.Errorf("%d is no crossing of %v with %d", at, list, band)
				}
				side = x
			} else if max(x, -x) > band {
				if side != 0 && side > 0 != (x > 0) {
					t.Errorf("%d is a crossing of %v with %d", at, list, band)
				}
				side = x
			}
		}
		if !slices.IsSorted(changes) {
			t.Errorf("the crossings %v are not in order", changes)
		}
	}
}

// Which side is above plays no part.
func TestDetectCrossingsUpsideDown(t *testing.T) {
	g := formSource(1234)
	for range 100 {
		list, band := g.atEnds(maxSample, 60), int(g.next()%4)
		turned := slices.Clone(list)
		for at := range turned {
			turned[at] = -turned[at]
		}
		holdSignal(t, "Crossings upside down", impl.Crossings(turned, band), true, impl.Crossings(list, band))
	}
}

func TestDetectCrossingsThatAreRefused(t *testing.T) {
	noCrossings := func(what string, list []int, band int) {
		t.Helper()
		if got := impl.Crossings(list, band); len(got) != 0 {
			t.Errorf("Crossings of %s are told: %v", what, got)
		}
	}
	for _, list := range noSignals() {
		for _, band := range []int{0, 1, maxSample, math.MaxInt, -1, math.MinInt} {
			noCrossings("no signal", list, band)
		}
	}
	long := []int{}
	for range maxSignal/2 + 1 {
		long = append(long, 5, -5)
	}
	noCrossings("a list that is too long", long, 0)
	noCrossings("a list that is too long by one", long[:maxSignal+1], 0)
	crossingsHold(t, long[:maxSignal], 0)
	for _, bad := range []int{maxSample + 1, -maxSample - 1, math.MaxInt, math.MinInt} {
		noCrossings("a number that is no sample", []int{5, -5, 5, bad}, 0)
		noCrossings("a number that is no sample", []int{bad, 5, -5, 5}, 0)
	}
	for _, band := range []int{-1, -2, -5, -6, -maxSample, -1 << 32, 1 - 1<<32, math.MinInt + 1, math.MinInt} {
		for _, list := range [][]int{nil, {5, -5, 5}, {0, 1, -1, 0}, long[:maxSignal]} {
			noCrossings("a band below 0", list, band)
		}
	}
}

func TestDetectCountsByHand(t *testing.T) {
	const most = maxSample
	for _, c := range []struct{ list, cuts, want []int }{
		{[]int{1, 5, 5, 9, -3}, []int{0, 5}, []int{1, 1, 3}}, {nil, nil, []int{0}}, {[]int{}, []int{}, []int{0}}, {nil, []int{7}, []int{0, 0}}, {nil, []int{7, 8, 9}, []int{0, 0, 0, 0}}, {[]int{1, 2, 3}, nil, []int{3}}, {[]int{-1}, []int{}, []int{1}}, {[]int{5}, []int{5}, []int{0, 1}}, {[]int{4}, []int{5}, []int{1, 0}}, {[]int{6}, []int{5}, []int{0, 1}}, {[]int{4, 5, 6}, []int{5}, []int{1, 2}}, {[]int{4, 5, 6}, []int{5, 6}, []int{1, 1, 1}}, {[]int{4, 5, 6}, []int{4, 5, 6}, []int{0, 1, 1, 1}}, {[]int{4, 5, 6}, []int{5, 6, 7}, []int{1, 1, 1, 0}},
		{[]int{-4, -5, -6}, []int{-5}, []int{1, 2}}, {[]int{-1, 0, 1}, []int{0}, []int{1, 2}}, {[]int{-1, 0, 1}, []int{-1, 0, 1}, []int{0, 1, 1, 1}}, {[]int{7, 7, 7}, []int{0, 7, 8}, []int{0, 0, 3, 0}}, {[]int{7, 7, 7}, []int{0, 6, 8}, []int{0, 0, 3, 0}}, {[]int{1, 100, 1}, []int{50, 200}, []int{2, 1, 0}},
		{[]int{most, -most}, []int{-most, most}, []int{0, 1, 1}}, {[]int{most, -most}, []int{1 - most, most}, []int{1, 0, 1}}, {[]int{most, -most}, []int{-most, most + 1}, []int{0, 2, 0}}, {[]int{most, -most}, []int{math.MinInt, math.MaxInt}, []int{0, 2, 0}}, {[]int{0}, []int{math.MinInt}, []int{0, 1}}, {[]int{0}, []int{math.MaxInt}, []int{1, 0}}, {[]int{0}, []int{math.MinInt, math.MinInt + 1, 0, math.MaxInt - 1, math.MaxInt}, []int{0, 0, 0, 1, 0, 0}}, {[]int{0, -1, 1}, []int{-1 << 32, 1 << 32}, []int{0, 3, 0}}, {[]int{5}, []int{1<<32 + 4}, []int{1, 0}},
	} {
		got, ok := impl.Counts(c.list, c.cuts)
		holdSignal(t, "Counts by hand", got, ok, c.want)
		holdSignal(t, "the oracle by hand", countsSlow(c.list, c.cuts), true, c.want)
	}
}

func countsHold(t *testing.T, list, cuts []int) {
	t.Helper()
	got, ok := impl.Counts(list, cuts)
	holdSignal(t, "Counts", got, ok, countsSlow(list, cuts))
	if sumOfInts(got) != len(list) {
		t.Errorf("%v do not count %d samples", got, len(list))
	}
}

func TestDetectCountsOfManySignals(t *testing.T) {
	g := formSource(1235)
	manySignals(1236, maxSample, func(list []int) {
		for _, n := range []int{0, 1, 2, 7, maxCuts - 1, maxCuts} {
			countsHold(t, list, g.cuts(maxSample, n))
			countsHold(t, list, g.cuts(1000, n))
			countsHold(t, list, g.cuts(math.MaxInt/2, n))
		}
		own := slices.Compact(slices.Sorted(slices.Values(list)))
		countsHold(t, list, own[:min(len(own), maxCuts)])
		countsHold(t, list, own[max(0, len(own)-maxCuts):])
	})
}

func TestDetectCountsOfShortLists(t *testing.T) {
	shortSignals(2, 4, func(list []int) {
		for _, cuts := range [][]int{{}, {0}, {-2}, {3}, {-1, 1}, {-1, 0, 1}, {-2, -1, 0, 1, 2}, {-3, 3}, {0, 1}, {-5, -4, 4, 5}} {
			countsHold(t, list, cuts)
		}
	})
}

// Of two cuts beside each other the count between is that of one number.
func TestDetectCountsOfCutsBesideEachOther(t *testing.T) {
	g := formSource(1237)
	cuts := []int{}
	for at := range maxCuts {
		cuts = append(cuts, at-maxCuts/2)
	}
	list := g.signal(maxCuts, maxSignal)
	got, ok := impl.Counts(list, cuts)
	if !ok || len(got) != maxCuts+1 {
		t.Fatalf("Counts of %d cuts are %v %v", len(cuts), got, ok)
	}
	for at := 1; at < maxCuts; at++ {
		count := 0
		for _, x := range list {
			if x == cuts[at-1] {
				count++
			}
		}
		holdInt(t, "Counts of one number", got[at], count, cuts[at-1])
	}
}

// notAscending are too many, or not ascending: at the beginning, at the end or between.
func notAscending() [][]int {
	many := []int{}
	for at := range maxCuts + 2 {
		many = append(many, at)
	}
	lists := [][]int{
		many, many[:maxCuts+1], make([]int, maxCuts), make([]int, maxCuts+1),
		{0, 0}, {5, 5}, {-5, -5}, {1, 0}, {0, -1}, {1, 1, 2}, {1, 2, 2}, {1, 2, 2, 3}, {2, 1, 3}, {1, 3, 2}, {1, 3, 2, 4}, {1, 2, 1}, {3, 2, 1},
		{math.MaxInt, math.MinInt}, {math.MinInt, math.MinInt}, {math.MaxInt, math.MaxInt}, {0, math.MinInt}, {math.MaxInt, 0}, {1<<32 + 1, 2}, {-1, -1 << 32},
	}
	for _, at := range []int{1, 50, maxCuts - 1} {
		alike, less := slices.Clone(many[:maxCuts]), slices.Clone(many[:maxCuts])
		alike[at] = alike[at-1]
		less[at] = less[at-1] - 1
		lists = append(lists, alike, less)
	}
	return lists
}

func TestDetectCountsThatAreRefused(t *testing.T) {
	for _, cuts := range notAscending() {
		for _, list := range [][]int{nil, {}, {1}, {1, 2, 3}, make([]int, maxSignal), make([]int, maxSignal+1)} {
			got, ok := impl.Counts(list, cuts)
			noSignal(t, "Counts with no such cuts", got, ok)
		}
	}
	for _, list := range noSignals() {
		for _, cuts := range [][]int{nil, {}, {0}, {1, 2}, {2, 1}, {math.MinInt, math.MaxInt}} {
			got, ok := impl.Counts(list, cuts)
			noSignal(t, "Counts of no signal", got, ok)
		}
	}
}
