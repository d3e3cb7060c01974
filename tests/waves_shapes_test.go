package tests

import (
	"math"
	"slices"
	"testing"

	"loop.example/g00043/impl"
)

func TestWaveWindowsByHand(t *testing.T) {
	const half = one / 2
	for _, c := range []struct {
		kind int
		want []int
	}{
		{impl.WindowFlat, []int{one}}, {impl.WindowFlat, []int{one, one, one}},
		{impl.WindowHann, []int{0}}, {impl.WindowHann, []int{0, one}}, {impl.WindowHann, []int{0, half, one, half}}, {impl.WindowHann, []int{0, 157245897, half, 916495927, one, 916495927, half, 157245897}},
		{impl.WindowTriangle, []int{one}}, {impl.WindowTriangle, []int{715827883, 715827883}}, {impl.WindowTriangle, []int{half, one, half}}, {impl.WindowTriangle, []int{429496730, 858993459, 858993459, 429496730}},
		{impl.WindowHamming, []int{85899346}}, {impl.WindowHamming, []int{85899346, one}}, {impl.WindowHamming, []int{85899346, 579820585, one, 579820585}},
	} {
		window, ok := impl.Window(c.kind, len(c.want))
		holdSignal(t, "Window", window, ok, c.want)
	}
}

// Hann is cut down, Hamming's halves go up, and so do the steps of a window of MaxSignal numbers, of which each second one is at a half.
func TestWaveWindowsAtTheHalf(t *testing.T) {
	window, _ := impl.Window(impl.WindowHann, 256)
	holdInt(t, "Hann", window[1], (one-1073418433-1)/2, 1, 256)
	holdInt(t, "Hann", window[127], (one+1073418433-1)/2, 127, 256)
	window, _ = impl.Window(impl.WindowHamming, 5)
	holdInt(t, "Hamming", window[2], 976541812, 2, 5)
	window, _ = impl.Window(impl.WindowHann, maxSignal)
	for i, step := range map[int]int{0: 0, 1: 1, 2: 1, 3: 2, 127: 64, 255: 128, 509: 255, 510: 255, 511: 256} {
		holdInt(t, "Hann", window[i], (one-impl.Cosine(step))/2, i, maxSignal)
	}
}

func TestWaveWindows(t *testing.T) {
	for _, kind := range windowKinds {
		for n := 1; n <= maxSignal; n++ {
			window, ok := impl.Window(kind, n)
			if !ok || len(window) != n || slices.Min(window) < 0 || slices.Max(window) > one {
				t.Fatalf("Window %d of %d is %v %v", kind, n, window, ok)
			}
			if n < 70 || n%50 == 0 || n > maxSignal-3 {
				holdSignal(t, "Window", window, ok, windowBig(kind, n))
			}
		}
	}
}

// A triangle is the same from both ends, rises up to its middle, and is One there where one number is in the middle.
func TestWaveTriangles(t *testing.T) {
	for n := 1; n <= maxSignal; n++ {
		window, _ := impl.Window(impl.WindowTriangle, n)
		turned := slices.Clone(window)
		slices.Reverse(turned)
		holdSignal(t, "a triangle from its end", turned, true, window)
		if !slices.IsSorted(window[:(n+1)/2]) || n%2 == 1 && window[n/2] != one || window[0] == 0 {
			t.Errorf("the triangle of %d is %v", n, window)
		}
	}
}

func TestWaveWindowsThatAreNone(t *testing.T) {
	for _, kind := range noWindowKinds {
		for _, n := range []int{1, 2, 3, maxSignal, 0, -1, maxSignal + 1} {
			window, ok := impl.Window(kind, n)
			noSignal(t, "Window of no kind", window, ok)
		}
	}
	for _, kind := range windowKinds {
		for _, n := range []int{0, -1, -2, maxSignal + 1, maxSignal + 2, -maxSignal, 1 << 32, 1<<32 + 3, math.MaxInt, math.MinInt} {
			window, ok := impl.Window(kind, n)
			noSignal(t, "Window of no length", window, ok)
		}
	}
}

func TestWaveTapersByHand(t *testing.T) {
	for _, c := range []struct {
		kind       int
		list, want []int
	}{
		{impl.WindowHann, []int{8, 8, 8, 8}, []int{0, 4, 8, 4}}, {impl.WindowHann, []int{-8, -8, -8, -8}, []int{0, -4, -8, -4}}, {impl.WindowHann, []int{1, 1, 1, 1}, []int{0, 1, 1, 1}}, {impl.WindowHann, []int{-1, -1, -1, -1}, []int{0, 0, -1, 0}}, {impl.WindowHann, []int{3, -3, 3, -3}, []int{0, -1, 3, -1}},
		{impl.WindowHann, []int{maxSample}, []int{0}}, {impl.WindowHann, []int{-maxSample, -maxSample}, []int{0, -maxSample}}, {impl.WindowFlat, []int{5, -7, maxSample, -maxSample}, []int{5, -7, maxSample, -maxSample}},
		{impl.WindowTriangle, []int{10, 10, 10}, []int{5, 10, 5}}, {impl.WindowTriangle, []int{-5, 5, 5}, []int{-2, 5, 3}}, {impl.WindowTriangle, []int{100, -100}, []int{67, -67}}, {impl.WindowHamming, []int{100, 100}, []int{8, 100}}, {impl.WindowHamming, []int{-100}, []int{-8}}, {impl.WindowHamming, []int{maxSample}, []int{80000000}},
	} {
		tapered, ok := impl.Taper(c.kind, c.list)
		holdSignal(t, "Taper", tapered, ok, c.want)
	}
}

func TestWaveTapersOfNothing(t *testing.T) {
	for _, empty := range [][]int{nil, {}, make([]int, 0, 9), []int{1, 2, 3}[:0]} {
		for _, kind := range windowKinds {
			tapered, ok := impl.Taper(kind, empty)
			holdSignal(t, "Taper of nothing", tapered, ok, nil)
		}
		for _, kind := range noWindowKinds {
			tapered, ok := impl.Taper(kind, empty)
			noSignal(t, "Taper of nothing by no kind", tapered, ok)
		}
	}
}

func TestWaveTapers(t *testing.T) {
	g := formSource(721)
	for _, kind := range windowKinds {
		for _, n := range []int{1, 2, 3, 4, 10, 101, maxSignal - 1, maxSignal} {
			for _, list := range [][]int{g.signal(1, n), g.signal(1000, n), g.signal(maxSample, n), slices.Repeat([]int{maxSample}, n), slices.Repeat([]int{-maxSample}, n)} {
				tapered, ok := impl.Taper(kind, list)
				holdSignal(t, "Taper", tapered, ok, taperBig(kind, list))
				noneGrown(t, list, tapered)
			}
		}
	}
}

func noneGrown(t *testing.T, list, tapered []int) {
	t.Helper()
	for i, x := range tapered {
		if x < min(list[i], 0) || x > max(list[i], 0) {
			t.Errorf("%d of the list is tapered to %d", list[i], x)
		}
	}
}

func TestWaveTapersThatAreNone(t *testing.T) {
	for _, list := range noSignals() {
		for _, kind := range append(slices.Clone(windowKinds), noWindowKinds...) {
			tapered, ok := impl.Taper(kind, list)
			noSignal(t, "Taper of no signal", tapered, ok)
		}
	}
	for _, kind := range noWindowKinds {
		for _, list := range [][]int{{5}, {1, 2, 3}, make([]int, maxSignal)} {
			tapered, ok := impl.Taper(kind, list)
			noSignal(t, "Taper by no kind", tapered, ok)
		}
	}
}
