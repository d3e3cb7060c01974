package tests

import (
	"math"
	"slices"
	"testing"

	"loop.example/g00043/impl"
)

var noBacks = []int{0, maxSignal + 1, -1, maxSignal + 2, -maxSignal, 1 << 32, 1<<32 + 1, -1 << 32, math.MaxInt, math.MinInt, math.MinInt + 1}

var noRates = []int{0, 33, -1, 34, -32, 64, maxSignal, 1 << 32, 1<<32 + 1, math.MaxInt, math.MinInt}

var noStages = []int{0, maxStages + 1, -1, maxStages + 2, -maxStages, 1 << 32, 1<<32 + 1, math.MaxInt, math.MinInt}

func TestFilterCombByHand(t *testing.T) {
	const most = maxSample
	for _, c := range []struct {
		back       int
		list, want []int
	}{
		{1, nil, nil}, {maxSignal, nil, nil}, {1, []int{7}, []int{7}}, {2, []int{7}, []int{7}}, {maxSignal, []int{7}, []int{7}},
		{1, []int{5, 7, 9, 1}, []int{5, 2, 2, -8}}, {2, []int{5, 7, 9, 1}, []int{5, 7, 4, -6}}, {3, []int{5, 7, 9, 1}, []int{5, 7, 9, -4}}, {4, []int{5, 7, 9, 1}, []int{5, 7, 9, 1}}, {5, []int{5, 7, 9, 1}, []int{5, 7, 9, 1}}, {maxSignal, []int{5, 7, 9, 1}, []int{5, 7, 9, 1}},
		{1, []int{most, -most, most}, []int{most, -2 * most, 2 * most}}, {2, []int{most, 0, -most}, []int{most, 0, -2 * most}}, {2, []int{-most, 3, -most, 3}, []int{-most, 3, 0, 0}},
	} {
		got, ok := impl.Comb(c.list, c.back)
		holdSignal(t, "Comb by hand", got, ok, c.want)
		holdSignal(t, "the oracle by hand", combSlow(c.list, c.back), true, c.want)
	}
}

func TestFilterGatherByHand(t *testing.T) {
	const most = maxSample
	for _, c := range []struct {
		back       int
		list, want []int
	}{
		{1, nil, nil}, {maxSignal, nil, nil}, {1, []int{7}, []int{7}}, {2, []int{7}, []int{7}}, {maxSignal, []int{-7}, []int{-7}},
		{1, []int{5, 7, 9, 1}, []int{5, 7, 9, 1}}, {2, []int{5, 7, 9, 1}, []int{5, 12, 16, 10}}, {3, []int{5, 7, 9, 1}, []int{5, 12, 21, 17}}, {4, []int{5, 7, 9, 1}, []int{5, 12, 21, 22}}, {5, []int{5, 7, 9, 1}, []int{5, 12, 21, 22}}, {maxSignal, []int{5, 7, 9, 1}, []int{5, 12, 21, 22}},
		{2, []int{most, most, -most, -most}, []int{most, 2 * most, 0, -2 * most}}, {3, []int{most, most, most, most}, []int{most, 2 * most, 3 * most, 3 * most}}, {2, []int{-1, 1, -1}, []int{-1, 0, 0}},
	} {
		got, ok := impl.Gather(c.list, c.back)
		holdSignal(t, "Gather by hand", got, ok, c.want)
		holdSignal(t, "the oracle by hand", gatherSlow(c.list, c.back), true, c.want)
	}
}

func sumsHold(t *testing.T, list []int, back int) {
	t.Helper()
	got, ok := impl.Comb(list, back)
	holdSignal(t, "Comb", got, ok, combSlow(list, back))
	got, ok = impl.Gather(list, back)
	holdSignal(t, "Gather", got, ok, gatherSlow(list, back))
}

func TestFilterCombAndGather(t *testing.T) {
	manySignals(1011, maxSample, func(list []int) {
		n := len(list)
		for _, back := range []int{1, 2, 3, 10, n - 1, n, n + 1, maxSignal - 1, maxSignal} {
			if back >= 1 && back <= maxSignal {
				sumsHold(t, list, back)
			}
		}
	})
	shortSignals(1, 5, func(list []int) {
		for back := 1; back <= 6; back++ {
			sumsHold(t, list, back)
		}
	})
	list := slices.Repeat([]int{maxSample}, maxSignal)
	got, ok := impl.Gather(list, maxSignal)
	if !ok || got[maxSignal-1] != maxSignal*maxSample {
		t.Errorf("Gather of all there can be is %v %v", got, ok)
	}
	for back := 1; back <= maxSignal; back++ {
		g := formSource(1012)
		sumsHold(t, g.signal(1000, 60), back)
	}
}

func TestFilterCombAndGatherThatAreRefused(t *testing.T) {
	for _, list := range noSignals() {
		for _, back := range append(noBacks, 1, 2, maxSignal) {
			got, ok := impl.Comb(list, back)
			noSignal(t, "Comb of no signal", got, ok)
			got, ok = impl.Gather(list, back)
			noSignal(t, "Gather of no signal", got, ok)
		}
	}
	for _, back := range noBacks {
		for _, list := range [][]int{nil, {}, {1}, {1, 2, 3}, make([]int, maxSignal)} {
			got, ok := impl.Comb(list, back)
			noSignal(t, "Comb by no place", got, ok)
			got, ok = impl.Gather(list, back)
			noSignal(t, "Gather by no place", got, ok)
		}
	}
}

// A comb of a ramp is what is gathered; with all gathered, a comb of one place has the list again; of less the same comb of the list.
func TestFilterCombUndoesSums(t *testing.T) {
	g := formSource(1013)
	for _, n := range []int{0, 1, 2, 3, 10, 100, maxSignal} {
		list := g.signal(maxSample/maxSignal, n)
		ramp, okRamp := impl.Ramp(list)
		all, okAll := impl.Gather(list, maxSignal)
		holdSignal(t, "Gather of all", all, okRamp && okAll, ramp)
		again, ok := impl.Comb(all, 1)
		holdSignal(t, "Comb of Gather's sums", again, ok, list)
		for _, back := range []int{1, 2, 3, 7, 31, 100, maxSignal} {
			sums, okSums := impl.Gather(list, back)
			comb, ok := impl.Comb(ramp, back)
			holdSignal(t, "Comb of a ramp", comb, ok && okSums, sums)
			steps, ok := impl.Comb(sums, 1)
			want, okWant := impl.Comb(list, back)
			holdSignal(t, "Comb by one place of what is gathered", steps, ok && okWant, want)
			whole, ok := impl.Ramp(want)
			holdSignal(t, "the ramp of a comb", whole, ok, sums)
		}
	}
}

func TestFilterCicByHand(t *testing.T) {
	ones := []int{1, 1, 1, 1, 1, 1}
	for _, c := range []struct {
		rate, stages int
		list, want   []int
	}{
		{1, 1, ones, ones}, {1, maxStages, []int{4, -5, 6}, []int{4, -5, 6}}, {2, 1, ones, []int{2, 2, 2}}, {2, 2, ones, []int{3, 4, 4}}, {3, 1, ones, []int{3, 3}}, {3, 2, ones, []int{6, 9}}, {2, 1, []int{5, 7, 9, 1}, []int{12, 10}}, {2, 1, []int{5, 7, 9}, []int{12}},
		{2, 3, []int{1, 0, 0, 0, 0, 0}, []int{3, 1, 0}}, {2, 3, []int{0, 1, 0, 0, 0, 0}, []int{1, 3, 0}}, {2, 5, []int{1, 0, 0, 0, 0, 0}, []int{5, 10, 1}}, {4, 1, []int{1, 2, 3, 4, 5, 6, 7}, []int{10}}, {4, 1, []int{1, 2, 3, 4, 5, 6, 7, 8}, []int{10, 26}},
		{2, 1, nil, nil}, {2, 1, []int{7}, nil}, {3, 2, []int{7, 8}, nil}, {32, maxStages, slices.Repeat([]int{1}, 31), nil}, {32, 1, slices.Repeat([]int{1}, 32), []int{32}}, {32, 1, slices.Repeat([]int{-maxNarrow}, 63), []int{-32 * maxNarrow}},
	} {
		got, ok := impl.Cic(c.list, c.rate, c.stages)
		holdSignal(t, "Cic by hand", got, ok, c.want)
		holdSignal(t, "the oracle by hand", cicSlow(c.list, c.rate, c.stages), true, c.want)
	}
}

func TestFilterCicOfAllRates(t *testing.T) {
	g := formSource(1014)
	for rate := 1; rate <= 32; rate++ {
		for stages := 1; stages <= maxStages; stages++ {
			for _, n := range []int{0, 1, rate - 1, rate, rate + 1, 2*rate - 1, 2 * rate, 80} {
				for _, list := range [][]int{g.signal(10, n), g.atEnds(maxNarrow, n)} {
					got, ok := impl.Cic(list, rate, stages)
					holdSignal(t, "Cic", got, ok, cicSlow(list, rate, stages))
				}
			}
		}
	}
}

func TestFilterCicAtTheLimits(t *testing.T) {
	full := maxNarrow
	for range maxStages {
		full *= 32
	}
	for _, sign := range []int{1, -1} {
		list := slices.Repeat([]int{sign * maxNarrow}, maxSignal)
		got, ok := impl.Cic(list, 32, maxStages)
		holdSignal(t, "Cic of all at the ends", got, ok, cicSlow(list, 32, maxStages))
		if len(got) != 16 || got[15] != sign*full {
			t.Errorf("Cic of all at the ends is %v in the end, not %d", got, sign*full)
		}
		list[maxSignal-1] = sign * (maxNarrow + 1)
		got, ok = impl.Cic(list, 32, maxStages)
		noSignal(t, "Cic with the last one beyond", got, ok)
	}
}

func TestFilterCicThatIsRefused(t *testing.T) {
	for _, list := range noSignals() {
		got, ok := impl.Cic(list, 1, 1)
		noSignal(t, "Cic of no signal", got, ok)
	}
	got, ok := impl.Cic(make([]int, maxSignal+1), 2, 2)
	noSignal(t, "Cic of too many", got, ok)
	for _, bad := range beyond(maxNarrow) {
		for at := range 5 {
			list := []int{1, 2, 3, 4, 5}
			list[at] = bad
			for _, rate := range []int{1, 2, 32} {
				got, ok := impl.Cic(list, rate, 1)
				noSignal(t, "Cic of a sample beyond", got, ok)
			}
		}
	}
	for _, list := range [][]int{nil, {}, {1}, {1, 2, 3, 4}, make([]int, maxSignal)} {
		for _, rate := range noRates {
			for _, stages := range append(noStages, 1, maxStages) {
				got, ok := impl.Cic(list, rate, stages)
				noSignal(t, "Cic of no rate", got, ok)
			}
		}
		for _, stages := range noStages {
			for _, rate := range []int{1, 2, 32} {
				got, ok := impl.Cic(list, rate, stages)
				noSignal(t, "Cic of no stages", got, ok)
			}
		}
	}
}

// What is gathered in stages is a filter of ones, so many times, thinned; and Gather so many times, too.
func TestFilterCicIsFirOfOnes(t *testing.T) {
	g := formSource(1015)
	for _, rate := range []int{1, 2, 3, 8, 31, 32} {
		for stages := 1; stages <= maxStages; stages++ {
			for _, n := range []int{1, 31, 32, 200, maxSignal} {
				list := g.signal(20, n)
				got, ok := impl.Cic(list, rate, stages)
				for name, call := range firs {
					sums := list
					for range stages {
						sums, _, _ = call(slices.Repeat([]int{1}, rate), make([]int, rate-1), sums)
					}
					holdSignal(t, "Cic against "+name, got, ok, thinned(sums, rate))
				}
				sums := list
				for range stages {
					sums, _ = impl.Gather(sums, rate)
				}
				holdSignal(t, "Cic against Gather", got, ok, thinned(sums, rate))
			}
		}
	}
}
