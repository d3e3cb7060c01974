package tests

import (
	"math"
	"slices"
	"testing"

	"loop.example/g00043/impl"
)

var noTapCounts = []int{0, maxTaps + 1, -1, maxTaps + 2, -maxTaps, 1 << 32, 1<<32 + 1, -1 << 32, math.MaxInt, math.MinInt, math.MinInt + 1}

var noBys = []int{-1, 41, -2, 42, 60, 61, 64, -40, 1 << 32, 1<<32 + 1, -1 << 32, math.MaxInt, math.MinInt}

func TestFilterAdaptByHand(t *testing.T) {
	for _, c := range []struct {
		taps, by           int
		list, want         []int
		wantErrors, behind []int
	}{
		{1, 0, nil, nil, nil, []int{0}}, {3, 40, nil, nil, nil, []int{0, 0, 0}}, {2, 0, []int{0, 0}, []int{7, -9}, []int{7, -9}, []int{0, 0}},
		{1, 0, []int{1}, []int{100}, []int{100}, []int{100}}, {1, 0, []int{1, 1, 16384}, []int{100, 0, 0}, []int{100, 0, -100}, []int{-maxTap}}, {1, 1, []int{3}, []int{5}, []int{5}, []int{7}}, {1, 1, []int{-3}, []int{5}, []int{5}, []int{-8}}, {1, 1, []int{-3}, []int{-5}, []int{-5}, []int{7}},
		{2, 0, []int{1, 1}, []int{5, 7}, []int{5, 7}, []int{12, 7}}, {2, 0, []int{2, 3}, []int{1, 0}, []int{1, 0}, []int{2, 0}}, {3, 0, []int{1, 10}, []int{1, 1}, []int{1, 1}, []int{11, 1, 0}}, {3, 2, []int{1, 10, 100}, []int{1, 1, 1}, []int{1, 1, 1}, []int{27, 2, 0}},
		{1, 0, []int{16384, 16384}, []int{1, 0}, []int{1, -16384}, []int{-maxTap}}, {1, 0, []int{-1, 1, 1}, []int{1, 0, 0}, []int{1, 1, 0}, []int{0}}, {1, 0, []int{1, -1, 1}, []int{1, 0, 0}, []int{1, 1, 0}, []int{0}},
		{1, 40, []int{1, 1, -1}, []int{1, 1, 1}, []int{1, 1, 1}, []int{-1}}, {1, 40, []int{-1, 1}, []int{1, 1}, []int{1, 2}, []int{-1}}, {1, 40, []int{maxNarrow}, []int{maxNarrow}, []int{maxNarrow}, []int{0}}, {1, 40, []int{-maxNarrow}, []int{maxNarrow}, []int{maxNarrow}, []int{-1}},
		{1, 0, []int{maxNarrow}, []int{maxNarrow}, []int{maxNarrow}, []int{maxTap}}, {1, 0, []int{maxNarrow}, []int{-maxNarrow}, []int{-maxNarrow}, []int{-maxTap}}, {1, 0, []int{1000}, []int{1000}, []int{1000}, []int{maxTap}}, {1, 0, []int{1001}, []int{999}, []int{999}, []int{maxTap - 1}}, {1, 0, []int{-1001}, []int{999}, []int{999}, []int{1 - maxTap}},
		{1, 0, []int{maxNarrow, maxNarrow}, []int{maxNarrow, 0}, []int{maxNarrow, -1999938}, []int{-maxTap}}, {2, 14, []int{maxNarrow, 0}, []int{maxNarrow, 16384}, []int{maxNarrow, 16384}, []int{65532, 32767}},
	} {
		errors, behind, ok := impl.Adapt(c.taps, c.by, c.list, c.want)
		holdBoth(t, "Adapt by hand", errors, behind, ok, c.wantErrors, c.behind)
		errors, behind = adaptSlow(c.taps, c.by, c.list, c.want)
		holdBoth(t, "the oracle by hand", errors, behind, true, c.wantErrors, c.behind)
	}
}

func adaptHolds(t *testing.T, taps, by int, list, want []int) {
	t.Helper()
	errors, behind, ok := impl.Adapt(taps, by, list, want)
	wantErrors, wantBehind := adaptSlow(taps, by, list, want)
	holdBoth(t, "Adapt", errors, behind, ok, wantErrors, wantBehind)
}

func TestFilterAdaptStepByStep(t *testing.T) {
	g := formSource(1031)
	for _, taps := range []int{1, 2, 3, 10, maxTaps - 1, maxTaps} {
		for _, by := range []int{0, 1, 5, 12, 14, 20, 30, 39, 40} {
			for _, n := range []int{0, 1, 2, 3, taps, taps + 1, 2 * taps, 40} {
				adaptHolds(t, taps, by, g.signal(10, n), g.signal(10, n))
				adaptHolds(t, taps, by, g.signal(maxNarrow, n), g.signal(maxNarrow, n))
				adaptHolds(t, taps, by, g.atEnds(maxNarrow, n), g.atEnds(maxNarrow, n))
				adaptHolds(t, taps, by, g.loud(maxNarrow, n), g.loud(maxNarrow, n))
			}
		}
		adaptHolds(t, taps, 14, g.signal(maxNarrow, maxSignal), g.signal(maxNarrow, maxSignal))
		adaptHolds(t, taps, 22, g.signal(1000, maxSignal), g.signal(1000, maxSignal))
	}
}

// All at the ends: sums and errors are then as great as they can be.
func TestFilterAdaptAtTheEnds(t *testing.T) {
	for _, x := range []int{maxNarrow, -maxNarrow} {
		for _, y := range []int{maxNarrow, -maxNarrow} {
			for _, taps := range []int{1, maxTaps} {
				for _, by := range []int{0, 40} {
					adaptHolds(t, taps, by, slices.Repeat([]int{x}, 200), slices.Repeat([]int{y}, 200))
					adaptHolds(t, taps, by, slices.Repeat([]int{x, -x}, 100), slices.Repeat([]int{y}, 200))
				}
			}
		}
	}
}

// As long as only noughts have come in, the taps stay as they began, and all that is wanted is missed.
func TestFilterAdaptBeginsWithNoughts(t *testing.T) {
	g := formSource(1032)
	for _, taps := range []int{1, 2, 7, maxTaps} {
		for _, by := range []int{0, 14, 40} {
			want := g.signal(maxNarrow, 100)
			errors, behind, ok := impl.Adapt(taps, by, make([]int, 100), want)
			holdBoth(t, "Adapt of noughts", errors, behind, ok, want, make([]int, taps))
			list := g.signal(maxNarrow, 100)
			first, _, ok := impl.Adapt(taps, by, list, want)
			holdSignal(t, "Adapt's first error", first[:1], ok, want[:1])
			errors, behind, ok = impl.Adapt(taps, by, list, make([]int, 100))
			holdBoth(t, "Adapt to noughts", errors, behind, ok, make([]int, 100), make([]int, taps))
			later, laterBehind, ok := impl.Adapt(taps, by, append(make([]int, 50), list...), append(make([]int, 50), want...))
			wantErrors, wantBehind, okWant := impl.Adapt(taps, by, list, want)
			holdBoth(t, "Adapt behind noughts", later[50:], laterBehind, ok && okWant, wantErrors, wantBehind)
		}
	}
}

// What another filter makes of a list is learnt until little of it is missed.
func TestFilterAdaptLearns(t *testing.T) {
	g := formSource(1033)
	list := g.signal(8000, maxSignal)
	made, _, _ := impl.Fir([]int{3, -2, 1}, []int{0, 0}, list)
	want := []int{}
	for _, x := range made {
		want = append(want, x/4)
	}
	errors, behind, ok := impl.Adapt(3, 13, list, want)
	if !ok {
		t.Fatal("Adapt is refused")
	}
	for at, near := range []int{12288, -8192, 4096} {
		if off := behind[at] - near; off < -50 || off > 50 {
			t.Errorf("the tap %d is %d, not about %d", at, behind[at], near)
		}
	}
	for at, e := range errors[maxSignal-100:] {
		if e < -50 || e > 50 {
			t.Errorf("%d is missed at %d from the last", e, 100-at)
		}
	}
}

func noAdapt(t *testing.T, what string, taps, by int, list, want []int) {
	t.Helper()
	errors, behind, ok := impl.Adapt(taps, by, list, want)
	noBoth(t, "Adapt "+what, errors, behind, ok)
}

func TestFilterAdaptThatIsRefused(t *testing.T) {
	lists := [][]int{nil, {}, {1}, {1, 2, 3}, make([]int, maxSignal)}
	for _, list := range lists {
		for _, taps := range noTapCounts {
			for _, by := range append(noBys, 0, 14, 40) {
				noAdapt(t, "with no taps", taps, by, list, list)
			}
		}
		for _, by := range noBys {
			for _, taps := range []int{1, 2, maxTaps} {
				noAdapt(t, "by no step", taps, by, list, list)
			}
		}
		for _, other := range lists {
			if len(list) != len(other) {
				noAdapt(t, "of lists that are not as long", 2, 14, list, other)
			}
		}
	}
	noAdapt(t, "of one more", 2, 14, make([]int, 10), make([]int, 11))
	noAdapt(t, "of one less", 2, 14, make([]int, 11), make([]int, 10))
}

func TestFilterAdaptOfNoSignal(t *testing.T) {
	for _, list := range noSignals() {
		noAdapt(t, "of no signal", 1, 0, list, list)
		noAdapt(t, "of no signal", 1, 0, list, make([]int, len(list)))
		noAdapt(t, "to no signal", 1, 0, make([]int, len(list)), list)
	}
	for _, bad := range append(beyond(maxNarrow), maxTap, -maxTap, maxSample, -maxSample) {
		for at := range 4 {
			list := []int{1, 2, 3, 4}
			list[at] = bad
			noAdapt(t, "of a sample beyond", 2, 14, list, []int{1, 2, 3, 4})
			noAdapt(t, "to a sample beyond", 2, 14, []int{1, 2, 3, 4}, list)
			noAdapt(t, "of samples beyond", 2, 14, list, list)
		}
	}
	for at := range 4 {
		for _, x := range []int{maxNarrow, -maxNarrow} {
			list := []int{1, 2, 3, 4}
			list[at] = x
			adaptHolds(t, 2, 14, list, []int{1, 2, 3, 4})
			adaptHolds(t, 2, 14, []int{1, 2, 3, 4}, list)
		}
	}
}
