package tests

import (
	"math"
	"slices"
	"testing"

	"loop.example/g00043/impl"
)

func TestDetectMatchByHand(t *testing.T) {
	const most, square = maxTap, maxTap * maxTap
	for _, c := range []struct {
		list, pattern, want []int
		at, size            int
	}{
		{[]int{1, 5, 2, 4}, []int{2, -1}, []int{-3, 8, 0}, 1, 8}, {[]int{7}, []int{3}, []int{21}, 0, 21}, {[]int{7}, []int{0}, []int{0}, 0, 0}, {[]int{7}, []int{-3}, []int{-21}, 0, -21}, {[]int{1, 2, 3}, []int{1}, []int{1, 2, 3}, 2, 3}, {[]int{1, 2, 3}, []int{-1}, []int{-1, -2, -3}, 0, -1}, {[]int{3, 2, 1}, []int{-2}, []int{-6, -4, -2}, 2, -2},
		{[]int{1, 2, 3}, []int{4, 5, 6}, []int{32}, 0, 32}, {[]int{1, 2, 3}, []int{6, 5, 4}, []int{28}, 0, 28}, {[]int{1, 2, 3}, []int{-4, -5, -6}, []int{-32}, 0, -32}, {[]int{1, 2, 3, 4}, []int{1, 0, 0}, []int{1, 2}, 1, 2}, {[]int{1, 2, 3, 4}, []int{0, 0, 1}, []int{3, 4}, 1, 4}, {[]int{0, 0, 1, 0, 0}, []int{5, 6, 7}, []int{7, 6, 5}, 0, 7}, {[]int{0, 0, -1, 0, 0}, []int{5, 6, 7}, []int{-7, -6, -5}, 2, -5},
		{[]int{5, 5, 5}, []int{1}, []int{5, 5, 5}, 0, 5}, {[]int{0, 0, 0}, []int{1, 1}, []int{0, 0}, 0, 0}, {[]int{1, 0, 1, 0, 1}, []int{1, 0}, []int{1, 0, 1, 0}, 0, 1}, {[]int{0, 9, 0, 9, 3}, []int{1}, []int{0, 9, 0, 9, 3}, 1, 9}, {[]int{-4, -2, -2, -7}, []int{1}, []int{-4, -2, -2, -7}, 1, -2}, {[]int{-1, -1, 0, 0, -1}, []int{1, 1}, []int{-2, -1, 0, -1}, 2, 0}, {[]int{-3, -2, -1, -1, -1}, []int{1, 1}, []int{-5, -3, -2, -2}, 2, -2},
		{[]int{most, -most}, []int{most, -most}, []int{2 * square}, 0, 2 * square}, {[]int{most, -most}, []int{-most, most}, []int{-2 * square}, 0, -2 * square}, {[]int{-most, most, most}, []int{most}, []int{-square, square, square}, 1, square}, {[]int{-most}, []int{-most}, []int{square}, 0, square}, {[]int{-most, -most}, []int{most}, []int{-square, -square}, 0, -square},
	} {
		got, ok := impl.Match(c.list, c.pattern)
		holdSignal(t, "Match by hand", got, ok, c.want)
		holdSignal(t, "the oracle by hand", matchSlow(c.list, c.pattern), true, c.want)
		at, size := impl.Best(c.list, c.pattern)
		holdBest(t, "Best by hand", at, size, c.at, c.size)
		at, size = bestSlow(c.list, c.pattern)
		holdBest(t, "the oracle's best by hand", at, size, c.at, c.size)
	}
}

func matchHolds(t *testing.T, list, pattern []int) {
	t.Helper()
	got, ok := impl.Match(list, pattern)
	holdSignal(t, "Match", got, ok, matchSlow(list, pattern))
	at, size := impl.Best(list, pattern)
	wantAt, wantSize := bestSlow(list, pattern)
	holdBest(t, "Best", at, size, wantAt, wantSize)
}

// patternLengths fit into a list of n, the last one just so.
func patternLengths(n int) []int {
	fit := []int{}
	for _, count := range []int{1, 2, 3, 8, n / 2, n - 1, n} {
		if count >= 1 && count <= n {
			fit = append(fit, count)
		}
	}
	return fit
}

func TestDetectMatchOfAllLengths(t *testing.T) {
	g := formSource(1211)
	for _, n := range []int{1, 2, 3, 4, 5, 8, 17, 64, 100, maxPoints, maxPoints + 1} {
		for _, count := range patternLengths(n) {
			matchHolds(t, g.signal(maxTap, n), g.signal(maxTap, count))
			matchHolds(t, g.atEnds(maxTap, n), g.atEnds(maxTap, count))
			matchHolds(t, g.signal(1, n), g.signal(1, count))
		}
	}
	for n := range 9 {
		for count := 1; count <= n; count++ {
			matchHolds(t, g.signal(9, n), g.signal(9, count))
			matchHolds(t, g.loud(maxTap, n), g.loud(maxTap, count))
		}
	}
}

func TestDetectMatchOfMaxSignal(t *testing.T) {
	g := formSource(1212)
	const sum = maxSignal * maxTap * maxTap
	for _, n := range []int{maxSignal - 1, maxSignal} {
		for _, count := range []int{1, 2, maxTaps, maxTaps + 1, maxPoints + 1, n - 1, n} {
			matchHolds(t, g.loud(maxTap, n), g.loud(maxTap, count))
			matchHolds(t, g.signal(maxTap, n), g.atEnds(maxTap, count))
		}
	}
	loudest := slices.Repeat([]int{maxTap}, maxSignal)
	lowest := slices.Repeat([]int{-maxTap}, maxSignal)
	for _, c := range []struct {
		list, pattern []int
		want          int
	}{{loudest, loudest, sum}, {lowest, lowest, sum}, {loudest, lowest, -sum}, {lowest, loudest, -sum}} {
		got, ok := impl.Match(c.list, c.pattern)
		holdSignal(t, "the loudest Match", got, ok, []int{c.want})
		at, size := impl.Best(c.list, c.pattern)
		holdBest(t, "the loudest Best", at, size, 0, c.want)
	}
}

func TestDetectMatchOfShortLists(t *testing.T) {
	shortSignals(1, 5, func(list []int) {
		shortSignals(1, min(3, len(list)), func(pattern []int) {
			if len(pattern) > 0 {
				matchHolds(t, list, pattern)
			}
		})
	})
}

// A match is its filter: the taps are the pattern turned around, and what is told ahead of a whole one is left out.
func TestDetectMatchIsItsFilter(t *testing.T) {
	g := formSource(1213)
	for _, n := range []int{1, 2, 3, 10, maxTaps, 200, maxSignal} {
		for _, count := range []int{1, 2, 3, maxTaps - 1, maxTaps} {
			if count > n {
				continue
			}
			list, pattern := g.atEnds(maxTap, n), g.atEnds(maxTap, count)
			got, ok := impl.Match(list, pattern)
			for _, filter := range []func([]int, []int, []int) ([]int, []int, bool){impl.Fir, impl.FirTurned} {
				told, _, okFilter := filter(backwards(pattern), make([]int, count-1), list)
				holdSignal(t, "Match", got, ok && okFilter, told[count-1:])
			}
		}
	}
	for _, n := range []int{1, 5, 100, maxPoints} {
		for _, count := range patternLengths(n) {
			list, pattern := g.atEnds(maxTap, n), g.atEnds(maxTap, count)
			got, ok := impl.Match(list, pattern)
			whole, okWhole := impl.Convolve(list, backwards(pattern))
			holdSignal(t, "Match", got, ok && okWhole, whole[count-1:n])
		}
	}
}

// What is matched, and by what, add up.
func TestDetectMatchAddsUp(t *testing.T) {
	g := formSource(1214)
	for range 100 {
		n := 1 + int(g.next()%40)
		count := 1 + int(g.next()%uint64(n))
		first, second, pattern := g.signal(1000, n), g.signal(1000, n), g.signal(1000, count)
		both := slices.Clone(first)
		for at := range both {
			both[at] += second[at]
		}
		one, okOne := impl.Match(first, pattern)
		other, okOther := impl.Match(second, pattern)
		for at := range one {
			one[at] += other[at]
		}
		got, ok := impl.Match(both, pattern)
		holdSignal(t, "Match of a sum", got, ok && okOne && okOther, one)
	}
}

// A pattern that stands somewhere is matched best where it stands, and of some where it is the strongest, and of some as strong at the first.
func TestDetectBestIsWhereThePatternStands(t *testing.T) {
	g := formSource(1215)
	for _, count := range []int{1, 2, 5, 30} {
		for range 20 {
			pattern := append(g.signal(1000, count-1), 1+int(g.next()%1000))
			power := int(sumOfProducts(pattern, pattern).Int64())
			list := make([]int, 5*count+7)
			for _, place := range []int{0, 1, count, 5*count + 7 - count} {
				clear(list)
				copy(list[place:], pattern)
				at, size := impl.Best(list, pattern)
				holdBest(t, "Best of one that stands", at, size, place, power)
			}
			for _, by := range [][3]int{{1, 2, 1}, {1, 1, 1}, {1, 1, 2}, {3, 2, 3}, {1, 5, 5}, {-1, 2, 2}} {
				clear(list)
				for k, x := range pattern {
					for stand, times := range by {
						list[2*stand*count+k] = times * x
					}
				}
				most := slices.Max(by[:])
				at, size := impl.Best(list, pattern)
				holdBest(t, "Best of three that stand", at, size, 2*count*slices.Index(by[:], most), most*power)
			}
		}
	}
}

func TestDetectBestIsTheFirstOfTheGreatest(t *testing.T) {
	g := formSource(1216)
	for range 300 {
		list, pattern := g.signal(1, 1+int(g.next()%30)), g.signal(1, 1)
		matchHolds(t, list, pattern)
		told, ok := impl.Match(list, pattern)
		at, size := impl.Best(list, pattern)
		if !ok || told[at] != size || slices.Max(told) != size || slices.Contains(told[:at], size) {
			t.Errorf("Best of %v is %d and %d", told, at, size)
		}
	}
}

// notModest are no signals, or have a sample beyond MaxTap in size at the beginning, at the end or between.
func notModest() [][]int {
	lists := noSignals()
	for _, bad := range []int{maxTap + 1, -maxTap - 1, maxTap + 2, 2 * maxTap, maxSample, -maxSample} {
		lists = append(lists, []int{bad}, []int{bad, 0, 0}, []int{0, bad, 0}, []int{0, 0, bad}, append(make([]int, maxSignal-1), bad))
	}
	return lists
}

func noMatch(t *testing.T, what string, list, pattern []int) {
	t.Helper()
	got, ok := impl.Match(list, pattern)
	noSignal(t, "Match with "+what, got, ok)
	at, size := impl.Best(list, pattern)
	holdBest(t, "Best with "+what, at, size, -1, 0)
}

func TestDetectMatchThatIsRefused(t *testing.T) {
	full := slices.Repeat([]int{3}, maxSignal)
	for _, bad := range notModest() {
		for _, good := range [][]int{nil, {}, {1}, {1, 2}, {1, 2, 3}, full} {
			noMatch(t, "no such list", bad, good)
			noMatch(t, "no such pattern", good, bad)
		}
		noMatch(t, "neither", bad, bad)
	}
	for _, list := range [][]int{nil, {}, {1}, {1, 2, 3}, {-maxTap}, full} {
		noMatch(t, "no pattern", list, nil)
		noMatch(t, "an empty pattern", list, []int{})
		noMatch(t, "a pattern that is longer", list, append(slices.Clone(list), 1))
		noMatch(t, "a pattern that is longer by two", list, append(slices.Clone(list), 1, 1))
	}
	noMatch(t, "a pattern of all and a list of one", []int{1}, full)
	noMatch(t, "a long pattern and one less", full[:maxSignal-1], full)
	for _, far := range []int{1 << 32, 1<<32 + 1, math.MaxInt, math.MinInt} {
		noMatch(t, "a number far off in the list", []int{1, far}, []int{1})
		noMatch(t, "a number far off in the pattern", []int{1, 2}, []int{1, far})
	}
}
