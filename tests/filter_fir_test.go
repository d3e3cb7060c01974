package tests

import (
	"slices"
	"testing"

	"loop.example/g00043/impl"
)

// A fir is one structure for sums of taps times samples.
type fir func(taps []int, state []int, list []int) ([]int, []int, bool)

var firs = map[string]fir{"Fir": impl.Fir, "FirTurned": impl.FirTurned}

var tapCounts = []int{1, 2, 3, 4, 7, 16, 33, maxTaps - 1, maxTaps}

func TestFilterFirByHand(t *testing.T) {
	const most, full = maxSample, maxTap * maxSample
	for _, c := range []struct{ taps, state, list, want, behind []int }{
		{[]int{3}, nil, []int{1, -2, 0, 5}, []int{3, -6, 0, 15}, nil}, {[]int{3}, []int{}, nil, nil, nil}, {[]int{0}, nil, []int{7}, []int{0}, nil},
		{[]int{1, 2}, []int{10}, []int{1}, []int{21}, []int{1}}, {[]int{1, 2}, []int{10}, []int{1, 5}, []int{21, 7}, []int{5}}, {[]int{1, 2}, []int{10}, nil, nil, []int{10}}, {[]int{0, 1}, []int{-4}, []int{1, 2, 3}, []int{-4, 1, 2}, []int{3}},
		{[]int{1, 2, 3}, []int{10, 20}, []int{1, 0, 4}, []int{81, 32, 7}, []int{4, 0}}, {[]int{1, 2, 3}, []int{10, 20}, []int{1, 0}, []int{81, 32}, []int{0, 1}}, {[]int{1, 2, 3}, []int{10, 20}, []int{1}, []int{81}, []int{1, 10}}, {[]int{1, 2, 3}, []int{10, 20}, []int{}, []int{}, []int{10, 20}},
		{[]int{0, 0, 1}, []int{7, 8}, []int{1, 2, 3, 4}, []int{8, 7, 1, 2}, []int{4, 3}}, {[]int{0, 0, 0, 1}, []int{7, 8, 9}, []int{1}, []int{9}, []int{1, 7, 8}}, {[]int{1, 0, 0, 0}, []int{7, 8, 9}, []int{1, 2}, []int{1, 2}, []int{2, 1, 7}},
		{[]int{0, 1, 10, 100, 1000}, []int{1, 2, 3, 4}, []int{5, 6}, []int{4321, 3215}, []int{6, 5, 1, 2}}, {[]int{1, -1}, []int{5}, []int{5, 5, 6, 4}, []int{0, 0, 1, -2}, []int{4}},
		{[]int{maxTap}, nil, []int{most, -most}, []int{full, -full}, nil}, {[]int{-maxTap}, nil, []int{most, -most}, []int{-full, full}, nil}, {[]int{maxTap, -maxTap}, []int{-most}, []int{most}, []int{2 * full}, []int{most}}, {[]int{-maxTap, maxTap}, []int{-most}, []int{most, most}, []int{-2 * full, 0}, []int{most}},
	} {
		for name, call := range firs {
			got, behind, ok := call(c.taps, c.state, c.list)
			holdBoth(t, name+" by hand", got, behind, ok, c.want, c.behind)
		}
		got, behind := firSlow(c.taps, c.state, c.list)
		holdBoth(t, "the oracle by hand", got, behind, true, c.want, c.behind)
	}
}

func firHolds(t *testing.T, taps, state, list []int) {
	t.Helper()
	want, wantBehind := firSlow(taps, state, list)
	for name, call := range firs {
		got, behind, ok := call(taps, state, list)
		holdBoth(t, name, got, behind, ok, want, wantBehind)
	}
}

// lengthsAbout are of nothing, shorter than a state of so many, as long and longer.
func lengthsAbout(n int) []int {
	lengths := []int{0, 1, 2, n - 2, n - 1, n, n + 1, 2*n - 1, 2 * n, 100}
	return slices.DeleteFunc(lengths, func(n int) bool { return n < 0 })
}

func TestFilterFirOfAllLengths(t *testing.T) {
	g := formSource(1001)
	for _, n := range tapCounts {
		for _, length := range lengthsAbout(n - 1) {
			firHolds(t, g.signal(100, n), g.signal(1000, n-1), g.signal(1000, length))
			firHolds(t, g.signal(maxTap, n), g.signal(maxSample, n-1), g.signal(maxSample, length))
			firHolds(t, g.atEnds(maxTap, n), g.atEnds(maxSample, n-1), g.atEnds(maxSample, length))
			firHolds(t, g.loud(maxTap, n), g.loud(maxSample, n-1), g.loud(maxSample, length))
		}
	}
}

func TestFilterFirOfFewTaps(t *testing.T) {
	shortSignals(1, 3, func(taps []int) {
		if len(taps) == 0 {
			return
		}
		shortSignals(1, 4, func(list []int) {
			g := formSource(1002)
			firHolds(t, taps, g.signal(3, len(taps)-1), list)
			firHolds(t, taps, make([]int, len(taps)-1), list)
		})
	})
}

func TestFilterFirAtTheLimits(t *testing.T) {
	g := formSource(1003)
	for _, tap := range []int{maxTap, -maxTap} {
		for _, x := range []int{maxSample, -maxSample} {
			taps, state, list := slices.Repeat([]int{tap}, maxTaps), slices.Repeat([]int{x}, maxTaps-1), slices.Repeat([]int{x}, maxSignal)
			for name, call := range firs {
				got, behind, ok := call(taps, state, list)
				holdBoth(t, name+" of all at the ends", got, behind, ok, slices.Repeat([]int{maxTaps * tap * x}, maxSignal), state)
			}
		}
		for at := range maxTaps {
			taps := g.signal(maxTap, maxTaps)
			taps[at] = tap
			firHolds(t, taps, g.signal(maxSample, maxTaps-1), g.signal(maxSample, 70))
		}
	}
	for _, n := range tapCounts {
		firHolds(t, g.signal(maxTap, n), g.signal(maxSample, n-1), g.signal(maxSample, maxSignal))
		firHolds(t, g.signal(maxTap, n), g.signal(maxSample, n-1), g.signal(maxSample, maxSignal-1))
	}
}

func noFir(t *testing.T, what string, taps, state, list []int) {
	t.Helper()
	for name, call := range firs {
		got, behind, ok := call(taps, state, list)
		noBoth(t, name+" of "+what, got, behind, ok)
	}
}

func TestFilterFirOfNoTaps(t *testing.T) {
	for _, list := range [][]int{nil, {}, {1}, {1, 2, 3}} {
		for _, state := range [][]int{nil, {}, {1}, {1, 2}} {
			noFir(t, "no tap", nil, state, list)
			noFir(t, "no tap", []int{}, state, list)
		}
		for _, n := range []int{maxTaps + 1, maxTaps + 2, 2 * maxTaps, maxSignal, maxSignal + 1, 5000} {
			noFir(t, "too many taps", make([]int, n), make([]int, n-1), list)
			noFir(t, "too many taps", make([]int, n), make([]int, maxTaps-1), list)
			noFir(t, "too many taps", make([]int, n), nil, list)
		}
		for _, bad := range beyond(maxTap) {
			for _, n := range []int{1, 2, 3, maxTaps} {
				for _, at := range []int{0, n / 2, n - 1} {
					taps := make([]int, n)
					taps[at] = bad
					noFir(t, "a tap beyond", taps, make([]int, n-1), list)
				}
			}
		}
	}
}

func TestFilterFirOfNoState(t *testing.T) {
	for _, list := range [][]int{nil, {5}, {1, 2, 3}, make([]int, maxSignal)} {
		for _, n := range tapCounts {
			for _, count := range []int{0, n - 3, n - 2, n, n + 1, 2 * n, maxTaps, maxSignal, maxSignal + 1} {
				if count >= 0 && count != n-1 {
					noFir(t, "a state of too many or too few", make([]int, n), make([]int, count), list)
				}
			}
			for _, bad := range beyond(maxSample) {
				for at := range min(n-1, 4) {
					state := make([]int, n-1)
					state[at] = bad
					noFir(t, "a state that is none", make([]int, n), state, list)
					noFir(t, "a state that is none", make([]int, n), backwards(state), list)
				}
			}
		}
	}
}

func TestFilterFirOfNoSignal(t *testing.T) {
	for _, list := range noSignals() {
		for _, n := range tapCounts {
			noFir(t, "no signal", make([]int, n), make([]int, n-1), list)
		}
		noFir(t, "nothing right", nil, list, list)
	}
}

// Run in pieces, with the state handed on from one structure to the same or to the other, a filter tells what it tells in one.
func TestFilterFirInPieces(t *testing.T) {
	g := formSource(1004)
	for _, n := range tapCounts {
		taps, state, list := g.signal(maxTap, n), g.signal(maxSample, n-1), g.signal(maxSample, 90)
		for name, first := range firs {
			want, wantBehind, ok := first(taps, state, list)
			for at := range len(list) + 1 {
				for other, second := range firs {
					head, between, okHead := first(taps, state, list[:at])
					tail, behind, okTail := second(taps, between, list[at:])
					holdBoth(t, name+" and then "+other, slices.Concat(head, tail), behind, ok && okHead && okTail, want, wantBehind)
				}
			}
		}
	}
}

func TestFilterFirSampleBySample(t *testing.T) {
	g := formSource(1005)
	for _, n := range tapCounts {
		taps, state, list := g.signal(maxTap, n), g.signal(maxSample, n-1), g.signal(maxSample, 200)
		want, wantBehind := firSlow(taps, state, list)
		for name, call := range firs {
			told, behind := []int{}, state
			for _, x := range list {
				one, next, ok := call(taps, behind, []int{x})
				if !ok {
					t.Fatalf("%s of one sample is refused", name)
				}
				told, behind = append(told, one...), next
			}
			holdBoth(t, name+" sample by sample", told, behind, true, want, wantBehind)
		}
	}
}

// From a state of noughts a filter tells the beginning of the convolution.
func TestFilterFirConvolvesFromNoughts(t *testing.T) {
	g := formSource(1006)
	for _, n := range tapCounts {
		for _, length := range []int{1, 2, 3, n, 100, maxPoints} {
			taps, list := g.signal(maxTap, n), g.signal(maxTap, length)
			all, okAll := impl.Convolve(taps, list)
			for name, call := range firs {
				got, _, ok := call(taps, make([]int, n-1), list)
				holdSignal(t, name+" from noughts", got, ok && okAll, all[:length])
				rest, behind, ok := call(taps, make([]int, n-1), append(slices.Clone(list), make([]int, n-1)...))
				holdBoth(t, name+" until nothing is left", rest, behind, ok, all, make([]int, n-1))
			}
		}
		taps, long := g.signal(maxTap, n), g.signal(maxSample, maxSignal)
		want := convolveSlow(taps, long)[:maxSignal]
		for name, call := range firs {
			got, _, ok := call(taps, make([]int, n-1), long)
			holdSignal(t, name+" of a long list from noughts", got, ok, want)
		}
	}
}
