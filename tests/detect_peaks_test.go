package tests

import (
	"math"
	"slices"
	"testing"

	"loop.example/g00043/impl"
)

func TestDetectPeaksByHand(t *testing.T) {
	const most = maxSample
	for _, c := range []struct {
		list      []int
		high, low int
		want      []impl.Peak
	}{
		{[]int{0, 5, 9, 4, 6, 1, 7, 7}, 5, 3, []impl.Peak{{At: 2, Size: 9}, {At: 6, Size: 7}}}, {nil, 0, 0, nil}, {[]int{}, 5, -5, nil}, {nil, math.MinInt, math.MinInt, nil},
		{[]int{5}, 5, 5, []impl.Peak{{At: 0, Size: 5}}}, {[]int{4}, 5, 5, nil}, {[]int{4}, 5, 4, nil}, {[]int{4}, 5, 0, nil}, {[]int{6}, 5, 5, []impl.Peak{{At: 0, Size: 6}}}, {[]int{9, 0, 0}, 5, 3, []impl.Peak{{At: 0, Size: 9}}}, {[]int{0, 0, 9}, 5, 3, []impl.Peak{{At: 2, Size: 9}}}, {[]int{0, 0, 5}, 5, 5, []impl.Peak{{At: 2, Size: 5}}}, {[]int{0, 0, 4}, 5, 5, nil},
		{[]int{5, 3, 8}, 5, 3, []impl.Peak{{At: 2, Size: 8}}}, {[]int{5, 2, 8}, 5, 3, []impl.Peak{{At: 0, Size: 5}, {At: 2, Size: 8}}}, {[]int{8, 3, 5}, 5, 3, []impl.Peak{{At: 0, Size: 8}}}, {[]int{8, 2, 5}, 5, 3, []impl.Peak{{At: 0, Size: 8}, {At: 2, Size: 5}}}, {[]int{8, 2, 4}, 5, 3, []impl.Peak{{At: 0, Size: 8}}}, {[]int{8, 2, 4, 5}, 5, 3, []impl.Peak{{At: 0, Size: 8}, {At: 3, Size: 5}}}, {[]int{4, 3, 4, 5, 4, 3, 2, 3, 4}, 5, 3, []impl.Peak{{At: 3, Size: 5}}},
		{[]int{7, 7, 7}, 5, 3, []impl.Peak{{At: 0, Size: 7}}}, {[]int{6, 7, 4, 7, 7, 3}, 5, 3, []impl.Peak{{At: 1, Size: 7}}}, {[]int{7, 1, 7, 1, 7}, 5, 3, []impl.Peak{{At: 0, Size: 7}, {At: 2, Size: 7}, {At: 4, Size: 7}}}, {[]int{5, 4, 5, 4}, 5, 5, []impl.Peak{{At: 0, Size: 5}, {At: 2, Size: 5}}}, {[]int{5, 5, 4, 5}, 5, 5, []impl.Peak{{At: 0, Size: 5}, {At: 3, Size: 5}}}, {[]int{5, 6, 7, 8}, 5, 3, []impl.Peak{{At: 3, Size: 8}}}, {[]int{8, 7, 6, 5}, 5, 3, []impl.Peak{{At: 0, Size: 8}}},
		{[]int{-5, -9, -2, -8, -3}, -4, -6, []impl.Peak{{At: 2, Size: -2}, {At: 4, Size: -3}}}, {[]int{-5, -4, -6, -3, -7, -4}, -4, -6, []impl.Peak{{At: 3, Size: -3}, {At: 5, Size: -4}}}, {[]int{-1, -1}, -1, -1, []impl.Peak{{At: 0, Size: -1}}}, {[]int{-2, 0, -2}, 0, -1, []impl.Peak{{At: 1, Size: 0}}}, {[]int{-9, -8}, 0, -100, nil}, {[]int{-9, -8}, -10, -100, []impl.Peak{{At: 1, Size: -8}}},
		{[]int{1, 2, 3, 2}, math.MaxInt, 0, nil}, {[]int{1, 2, 3, 2}, math.MaxInt, math.MaxInt, nil}, {[]int{1, 2, 3, 2}, math.MaxInt, math.MinInt, nil}, {[]int{1, 2, 3, 2}, math.MinInt, math.MinInt, []impl.Peak{{At: 2, Size: 3}}}, {[]int{1, -2, 3, 2}, 3, math.MinInt, []impl.Peak{{At: 2, Size: 3}}}, {[]int{3, -2, 3, 4}, 3, math.MinInt, []impl.Peak{{At: 3, Size: 4}}}, {[]int{1, 2}, 1 << 32, 1, nil}, {[]int{1, 2}, -1 << 32, -1 << 32, []impl.Peak{{At: 1, Size: 2}}},
		{[]int{most, -most, most}, most, most, []impl.Peak{{At: 0, Size: most}, {At: 2, Size: most}}}, {[]int{most, -most, most}, most, -most, []impl.Peak{{At: 0, Size: most}}}, {[]int{most, -most, most}, most + 1, -most, nil}, {[]int{-most, most, -most, most}, most, 1 - most, []impl.Peak{{At: 1, Size: most}, {At: 3, Size: most}}}, {[]int{-most, -most}, -most, -most, []impl.Peak{{At: 0, Size: -most}}}, {[]int{-most, -most}, 1 - most, -most, nil}, {[]int{-most, most}, -most - 1, -most - 1, []impl.Peak{{At: 1, Size: most}}},
	} {
		got, ok := impl.Peaks(c.list, c.high, c.low)
		holdPeaks(t, "Peaks by hand", got, ok, c.want)
		holdPeaks(t, "the oracle by hand", peaksSlow(c.list, c.high, c.low), true, c.want)
	}
}

func peaksHold(t *testing.T, list []int, high, low int) {
	t.Helper()
	got, ok := impl.Peaks(list, high, low)
	if low > high {
		noPeaks(t, "Peaks with low above high", got, ok)
		return
	}
	holdPeaks(t, "Peaks", got, ok, peaksSlow(list, high, low))
}

func TestDetectPeaksOfShortLists(t *testing.T) {
	shortSignals(2, 5, func(list []int) {
		for high := -3; high <= 3; high++ {
			for low := -3; low <= 3; low++ {
				peaksHold(t, list, high, low)
			}
		}
	})
}

func TestDetectPeaksOfManySignals(t *testing.T) {
	g := formSource(1221)
	manySignals(1222, maxSample, func(list []int) {
		for _, most := range []int{2, 50, 100000, maxSample} {
			a, b := g.within(most), g.within(most)
			peaksHold(t, list, a, b)
			peaksHold(t, list, b, a)
			peaksHold(t, list, a, a)
		}
		for _, far := range farOff {
			peaksHold(t, list, far, 0)
			peaksHold(t, list, 0, far)
			peaksHold(t, list, far, far)
			peaksHold(t, list, far, -far)
		}
		if len(list) > 0 {
			some := list[g.next()%uint64(len(list))]
			for by := -1; by <= 1; by++ {
				peaksHold(t, list, some+by, some)
				peaksHold(t, list, some, some+by)
				peaksHold(t, list, maxSample, some+by)
				peaksHold(t, list, some+by, -maxSample)
			}
		}
	})
}

// What is told is a peak: of high at least, the first of the greatest, with a sample below low behind it, ahead of the next one.
func TestDetectPeaksAreSuch(t *testing.T) {
	g := formSource(1223)
	for range 300 {
		list := g.signal(10, int(g.next()%60))
		low := g.within(10)
		high := low + int(g.next()%6)
		peaks, ok := impl.Peaks(list, high, low)
		if !ok || len(peaks) == 0 && slices.ContainsFunc(list, func(x int) bool { return x >= high }) {
			t.Errorf("there are no peaks of %v with %d and %d, %v", list, high, low, ok)
		}
		behind := 0
		for _, p := range peaks {
			if p.At < behind || list[p.At] != p.Size || p.Size < high {
				t.Fatalf("%v is no peak behind %d of %v with %d and %d", p, behind, list, high, low)
			}
			behind = p.At
			for behind < len(list) && list[behind] >= low {
				if list[behind] > p.Size {
					t.Errorf("%v is not the greatest of %v with %d and %d", p, list, high, low)
				}
				behind++
			}
		}
	}
}

// A list and its two ends moved alike have their peaks where they were.
func TestDetectPeaksMoveWithTheirList(t *testing.T) {
	g := formSource(1224)
	for range 100 {
		list := g.signal(1000, 40)
		high, low, by := g.within(900), -900, g.within(100000)
		moved := slices.Clone(list)
		for at := range moved {
			moved[at] += by
		}
		peaks, ok := impl.Peaks(list, high, low)
		for at := range peaks {
			peaks[at].Size += by
		}
		got, okMoved := impl.Peaks(moved, high+by, low+by)
		holdPeaks(t, "Peaks of a list that is moved", got, ok && okMoved, peaks)
	}
}

func TestDetectPeaksThatAreRefused(t *testing.T) {
	for _, list := range noSignals() {
		for _, ends := range [][2]int{{1, 0}, {0, 0}, {0, 1}, {math.MaxInt, math.MinInt}, {math.MinInt, math.MinInt}, {math.MinInt, math.MaxInt}} {
			got, ok := impl.Peaks(list, ends[0], ends[1])
			noPeaks(t, "Peaks of no signal", got, ok)
		}
	}
	for _, list := range [][]int{nil, {}, {1}, {5, 6, 7}, slices.Repeat([]int{9}, maxSignal)} {
		for _, ends := range [][2]int{{1, 2}, {-1, 0}, {0, 1}, {-2, -1}, {5, 6}, {-maxSample, maxSample}, {0, math.MaxInt}, {math.MinInt, 0}, {math.MinInt, math.MinInt + 1}, {math.MinInt, math.MaxInt}, {math.MaxInt - 1, math.MaxInt}, {5, 1 << 32}, {1<<32 + 5, 1<<33 + 4}} {
			got, ok := impl.Peaks(list, ends[0], ends[1])
			noPeaks(t, "Peaks with low above high", got, ok)
		}
	}
}

func TestDetectPeaksOfMaxSignal(t *testing.T) {
	list := []int{}
	want := []impl.Peak{}
	for at := range maxSignal {
		if at%2 == 0 {
			list = append(list, -maxSample)
		} else {
			list = append(list, maxSample)
			want = append(want, impl.Peak{At: at, Size: maxSample})
		}
	}
	got, ok := impl.Peaks(list, maxSample, maxSample)
	holdPeaks(t, "Peaks of a full list", got, ok, want)
	got, ok = impl.Peaks(list, -maxSample, -maxSample)
	holdPeaks(t, "Peaks of a full list", got, ok, []impl.Peak{{At: 1, Size: maxSample}})
}
