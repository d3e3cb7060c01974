package tests

import (
	"slices"
	"testing"

	"loop.example/g00043/impl"
)

func TestRateRationalByHand(t *testing.T) {
	const full = maxTap * maxTap
	for _, c := range []struct {
		list, taps []int
		up, down   int
		want       []int
	}{
		{nil, []int{1}, 1, 1, nil}, {nil, []int{1, 2, 3}, maxRate, maxRate, nil}, {[]int{}, []int{1}, 2, 3, nil},
		{[]int{1, 2}, []int{5}, 1, 1, []int{5, 10}}, {[]int{1, 2}, []int{0}, 1, 1, []int{0, 0}}, {[]int{3, -4}, []int{0, 1}, 1, 1, []int{0, 3}}, {[]int{3, -4, 5}, []int{1, 1}, 1, 2, []int{3, 1}},
		{[]int{1, 2}, []int{1, 10, 100}, 2, 1, []int{1, 10, 102, 20}}, {[]int{1, 2}, []int{1, 10, 100}, 2, 2, []int{1, 102}}, {[]int{1, 2}, []int{1, 10, 100}, 2, 3, []int{1, 20}}, {[]int{1, 2}, []int{1, 10, 100}, 2, 4, []int{1}}, {[]int{1, 2}, []int{1, 10, 100}, 2, maxRate, []int{1}},
		{[]int{2, 4, 6}, []int{1, 1, 1}, 3, 2, []int{2, 2, 4, 6, 6}}, {[]int{7}, []int{1}, maxRate, 1, []int{7, 0, 0, 0, 0, 0, 0, 0, 0, 0, 0, 0, 0, 0, 0, 0}}, {[]int{7}, []int{1, 2}, maxRate, 8, []int{7, 0}}, {[]int{7, 8}, []int{1, 2}, maxRate, maxRate, []int{7, 8}}, {[]int{7, 8}, []int{0, 1}, maxRate, maxRate, []int{0, 0}}, {[]int{7, 8}, []int{0, 1}, maxRate, maxRate - 1, []int{0, 0, 0}}, {[]int{7, 8, 9}, []int{0, 1}, 2, 3, []int{0, 8}},
		{[]int{maxTap, -maxTap}, []int{maxTap}, 1, 1, []int{full, -full}}, {[]int{maxTap, -maxTap}, []int{-maxTap, maxTap}, 1, 1, []int{-full, 2 * full}}, {[]int{maxTap, -maxTap}, []int{maxTap, maxTap, -maxTap}, 2, 1, []int{full, full, -2 * full, -full}},
	} {
		got, ok := impl.Rational(c.list, c.taps, c.up, c.down)
		holdSignal(t, "Rational by hand", got, ok, c.want)
		holdSignal(t, "the oracle by hand", rationalSlow(c.list, c.taps, c.up, c.down), true, c.want)
	}
}

func rationalHolds(t *testing.T, list, taps []int, up, down int) {
	t.Helper()
	got, ok := impl.Rational(list, taps, up, down)
	holdSignal(t, "Rational", got, ok, rationalSlow(list, taps, up, down))
}

func TestRateRationalOfAllRates(t *testing.T) {
	g := formSource(1111)
	for up := 1; up <= maxRate; up++ {
		for down := 1; down <= maxRate; down++ {
			for _, n := range []int{1, 2, 3, 17, maxTaps} {
				for _, length := range []int{0, 1, 2, 3, 20} {
					rationalHolds(t, g.signal(100, length), g.signal(100, n), up, down)
					rationalHolds(t, g.atEnds(maxTap, length), g.atEnds(maxTap, n), up, down)
				}
			}
		}
	}
}

// All at the ends: the sums are then as great as they can be, and far beyond what samples are.
func TestRateRationalAtTheLimits(t *testing.T) {
	for _, x := range []int{maxTap, -maxTap} {
		for _, y := range []int{maxTap, -maxTap} {
			list, taps := slices.Repeat([]int{x}, maxTaps+2), slices.Repeat([]int{y}, maxTaps)
			for _, up := range []int{1, 2, maxRate} {
				for _, down := range []int{1, 2, maxRate} {
					rationalHolds(t, list, taps, up, down)
				}
			}
			got, ok := impl.Rational(list, taps, 1, 1)
			if !ok || got[maxTaps+1] != maxTaps*x*y {
				t.Errorf("Rational of all at the ends is %v %v", got, ok)
			}
		}
	}
}

// Between up and down there may be more than MaxSignal, and in the answer, too.
func TestRateRationalLongerThanASignal(t *testing.T) {
	g := formSource(1112)
	taps := g.signal(maxTap, 10)
	for _, up := range []int{1, 2, 3, maxRate - 1, maxRate} {
		for _, n := range []int{maxSignal/up - 1, maxSignal / up, min(maxSignal/up+1, maxSignal), maxSignal - 1, maxSignal} {
			list := g.signal(maxTap, n)
			for _, down := range []int{1, 2, up, maxRate} {
				got, ok := impl.Rational(list, taps, up, down)
				holdSignal(t, "Rational of a long signal", got, ok, rationalSlow(list, taps, up, down))
				if len(got) != (n*up+down-1)/down {
					t.Errorf("Rational of %d, %d by %d, tells %d", n, up, down, len(got))
				}
			}
		}
	}
}

func TestRateRationalThatIsRefused(t *testing.T) {
	good, taps := []int{1, 2, 3}, []int{4, 5}
	for _, list := range noSignals() {
		got, ok := impl.Rational(list, taps, 2, 3)
		noSignal(t, "Rational of no signal", got, ok)
		got, ok = impl.Rational(list, taps, 1, maxRate)
		noSignal(t, "Rational of no signal", got, ok)
	}
	for _, bad := range append(beyond(maxTap), maxSample, -maxSample) {
		for at := range 3 {
			list, wrong := slices.Clone(good), slices.Clone(good)
			list[at], wrong[at] = bad, bad
			for _, down := range []int{1, 2, maxRate} {
				got, ok := impl.Rational(list, taps, 2, down)
				noSignal(t, "Rational of a number beyond", got, ok)
				got, ok = impl.Rational(good, wrong, 2, down)
				noSignal(t, "Rational with a tap beyond", got, ok)
			}
		}
	}
	for _, list := range [][]int{nil, {}, {1}, good} {
		for _, none := range noTaps() {
			got, ok := impl.Rational(list, none, 2, 3)
			noSignal(t, "Rational without taps", got, ok)
		}
		for _, none := range [][]int{nil, {}, make([]int, maxTaps+1), make([]int, maxTaps+2), make([]int, maxSignal)} {
			got, ok := impl.Rational(list, none, 1, 1)
			noSignal(t, "Rational with so many taps", got, ok)
		}
		for _, rate := range noRatesOfWhole {
			for _, other := range append(noRatesOfWhole, 1, 2, maxRate) {
				got, ok := impl.Rational(list, taps, rate, other)
				noSignal(t, "Rational up by no rate", got, ok)
				got, ok = impl.Rational(list, taps, other, rate)
				noSignal(t, "Rational down by no rate", got, ok)
			}
		}
	}
}

// Whole ratios are filters between: the three steps one after the other, where each of them takes what the one ahead tells.
func TestRateRationalIsDownOfFirOfUp(t *testing.T) {
	g := formSource(1113)
	for up := 1; up <= maxRate; up++ {
		for down := 1; down <= maxRate; down++ {
			for _, n := range []int{0, 1, 5, maxSignal / up} {
				list, taps := g.signal(1000, n), g.signal(1000, 1+int(g.next()%maxTaps))
				dense, okUp := impl.Up(list, up)
				for name, call := range firs {
					between, _, okFir := call(taps, make([]int, len(taps)-1), dense)
					want, okDown := impl.Down(between, down, 0)
					got, ok := impl.Rational(list, taps, up, down)
					holdSignal(t, "Rational against Down of "+name+" of Up", got, ok && okUp && okFir && okDown, want)
				}
			}
		}
	}
}

// Each set of every up-th tap filters the list by itself, and tells the places that lie as far behind a sample as its first tap behind the first of all.
func TestRateRationalByEachSetOfTaps(t *testing.T) {
	g := formSource(1114)
	for up := 1; up <= maxRate; up++ {
		for _, count := range []int{1, 2, up, maxTaps - 1, maxTaps} {
			for _, n := range []int{1, 5, 70, maxSignal} {
				list, taps := g.atEnds(maxTap, n), g.atEnds(maxTap, count)
				dense := make([]int, n*up)
				for set := range min(up, count) {
					own := downSlow(taps, up, set)
					told, _, ok := impl.Fir(own, make([]int, len(own)-1), list)
					if !ok {
						t.Fatalf("Fir of %v is refused", own)
					}
					for at, x := range told {
						dense[at*up+set] = x
					}
				}
				for _, down := range []int{1, 3, maxRate} {
					got, ok := impl.Rational(list, taps, up, down)
					holdSignal(t, "Rational against its sets of taps", got, ok, downSlow(dense, down, 0))
				}
			}
		}
	}
}
