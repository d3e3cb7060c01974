package tests

import (
	"math"
	"slices"
	"testing"

	"loop.example/g00043/impl"
)

func TestDetectMatchAnswersAreNewMemory(t *testing.T) {
	g := formSource(1241)
	for _, n := range []int{1, 2, 3, 50, maxSignal} {
		for _, count := range patternLengths(n) {
			list := g.signal(maxTap, n)
			newMemoryOfBoth(t, "Match", list, g.signal(maxTap, count), impl.Match)
			newMemoryOfBoth(t, "Match of a part of its list", list, list[:count], impl.Match)
			newMemoryOfBoth(t, "Match with a pattern of ones", list, slices.Repeat([]int{1}, count), impl.Match)
		}
		newMemoryOfBoth(t, "Match with 1", g.signal(maxTap, n), []int{1}, impl.Match)
	}
}

// List and pattern may be pieces of one list, that reach over one another.
func TestDetectMatchOfOneList(t *testing.T) {
	g := formSource(1242)
	for n := 1; n <= 8; n++ {
		untouchedInts(t, "Match", g.signal(maxTap, 2*n), func(all []int) {
			for from := range n {
				matchHolds(t, all[:n+from], all[from:n])
				matchHolds(t, all[from:], all[:n])
				overwriteNothing(t, all, listOf(impl.Match(all[from:], all[:n])))
			}
		})
	}
}

// overwriteNothing fills an answer up to the end of its room, which leaves the list.
func overwriteNothing(t *testing.T, list, answer []int) {
	t.Helper()
	ahead := slices.Clone(list)
	overwrite(t, [][]int{answer})
	if !slices.Equal(list, ahead) {
		t.Errorf("an answer shares memory with its argument %v", ahead)
	}
}

func TestDetectCrossingsAndCountsAreNewMemory(t *testing.T) {
	g := formSource(1243)
	for _, n := range []int{0, 1, 2, 3, 50, maxSignal} {
		for _, most := range []int{3, maxSample} {
			for _, band := range []int{0, 1, maxSample} {
				newMemory(t, "Crossings", g.signal(most, n), func(list []int) ([]int, bool) { return impl.Crossings(list, band), true })
			}
			for _, count := range []int{0, 1, 2, maxCuts} {
				newMemoryOfBoth(t, "Counts", g.signal(most, n), g.cuts(100000, count), impl.Counts)
			}
		}
	}
	own := []int{-5, 0, 1, 7, maxSample}
	newMemoryOfBoth(t, "Counts of its cuts", own, own, impl.Counts)
}

func TestDetectPeaksAreNewMemory(t *testing.T) {
	g := formSource(1244)
	for _, n := range []int{0, 1, 2, 3, 50, maxSignal} {
		for _, ends := range [][2]int{{0, 0}, {1, -1}, {5, 3}, {-9, -9}, {10, -10}} {
			untouchedInts(t, "Peaks", g.signal(9, n), func(list []int) {
				first, ok := impl.Peaks(list, ends[0], ends[1])
				want := slices.Clone(first)
				full := first[:cap(first)]
				for at := range full {
					full[at] = impl.Peak{At: -9, Size: -9}
				}
				again, okAgain := impl.Peaks(list, ends[0], ends[1])
				holdPeaks(t, "Peaks, again,", again, ok && okAgain, want)
			})
		}
	}
}

func TestDetectBestLeavesItsLists(t *testing.T) {
	g := formSource(1245)
	for _, n := range []int{0, 1, 2, 30, maxSignal} {
		for _, count := range []int{0, 1, n, n + 1} {
			untouchedInts(t, "Best", g.signal(maxTap, n), func(list []int) {
				untouchedInts(t, "Best", g.signal(maxTap, count), func(pattern []int) { impl.Best(list, pattern) })
				impl.Best(list, list)
			})
		}
	}
}

// What is refused is not written into either, nor handed out.
func TestDetectRefusedArgumentsStay(t *testing.T) {
	for _, list := range append(notModest(), []int{1, 2, 3}, []int{}, []int{5}, []int{3, 2, 1}) {
		untouchedInts(t, "what is refused", list, func(piece []int) {
			overwrite(t, [][]int{
				listOf(impl.Match(piece, piece)), listOf(impl.Match(piece, nil)), listOf(impl.Match(nil, piece)), listOf(impl.Match(piece, []int{math.MaxInt})), listOf(impl.Match([]int{1, 2}, piece)),
				impl.Crossings(piece, 0), impl.Crossings(piece, -1), listOf(impl.Counts(piece, piece)), listOf(impl.Counts(piece, []int{1, 1})), listOf(impl.Counts(nil, piece)), listOf(impl.Counts(piece, nil)),
			})
			impl.Best(piece, piece)
			impl.Best(piece, nil)
			impl.Best(nil, piece)
			impl.Peaks(piece, 0, 1)
			impl.Peaks(piece, 0, 0)
		})
	}
}

// Behind the length of a list nothing is read.
func TestDetectReadsNoSpareRoom(t *testing.T) {
	g := formSource(1246)
	for _, behind := range []int{maxSample + 1, math.MaxInt, math.MinInt, 7, -7} {
		list, pattern := append(g.signal(9, 20), behind, behind)[:20], append(g.signal(9, 3), behind)[:3]
		cuts := append(g.cuts(9, 3), behind)[:3]
		matchHolds(t, list, pattern)
		matchHolds(t, list, list)
		peaksHold(t, list, 5, 2)
		crossingsHold(t, list, 3)
		countsHold(t, list, cuts)
	}
}

// Nothing is kept: what is asked in between changes no answer.
func TestDetectKeepsNothing(t *testing.T) {
	g := formSource(1247)
	list, pattern, cuts := g.signal(9, 60), g.signal(9, 5), []int{-4, 0, 4}
	told, _ := impl.Match(list, pattern)
	at, size := impl.Best(list, pattern)
	peaks, _ := impl.Peaks(list, 5, 0)
	changes := impl.Crossings(list, 4)
	counts, _ := impl.Counts(list, cuts)
	ways := impl.Ways(30, 4)
	threshold, _ := impl.Threshold(30, 1, 20)
	for range 3 {
		impl.Match(pattern, list)
		impl.Best(list, list)
		impl.Peaks(list, 0, 5)
		impl.Peaks(list, -9, -9)
		impl.Crossings(list, 0)
		impl.Crossings(list, -1)
		impl.Counts(list, nil)
		impl.Counts(list, []int{1, 1})
		impl.Ways(61, 0)
		impl.Ways(60, 0)
		impl.Threshold(60, 1000, 999)
		got, ok := impl.Match(list, pattern)
		holdSignal(t, "Match, again,", got, ok, told)
		atAgain, sizeAgain := impl.Best(list, pattern)
		holdBest(t, "Best, again,", atAgain, sizeAgain, at, size)
		same, ok := impl.Peaks(list, 5, 0)
		holdPeaks(t, "Peaks, again,", same, ok, peaks)
		holdSignal(t, "Crossings, again,", impl.Crossings(list, 4), true, changes)
		got, ok = impl.Counts(list, cuts)
		holdSignal(t, "Counts, again,", got, ok, counts)
		holdInt(t, "Ways, again,", impl.Ways(30, 4), ways)
		x, ok := impl.Threshold(30, 1, 20)
		holdTap(t, "Threshold, again,", x, ok, threshold)
	}
}
