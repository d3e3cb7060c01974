package tests

import (
	"math"
	"slices"
	"testing"

	"loop.example/g00043/impl"
)

func TestRateDriftByHand(t *testing.T) {
	const most = maxSample
	for _, c := range []struct {
		list            []int
		num, den, start int
		want            []int
	}{
		{nil, 1, 1, 0, nil}, {nil, 1, 2, 1, nil}, {nil, maxTap, maxTap, maxTap - 1, nil}, {[]int{7}, 1, 1, 0, []int{7}}, {[]int{7}, maxTap, 1, 0, []int{7}}, {[]int{7}, 1, 2, 1, nil}, {[]int{7}, 1, maxTap, 0, []int{7}}, {[]int{7}, 1, maxTap, maxTap - 1, nil}, {[]int{7}, 1, maxTap, 1, nil},
		{[]int{0, 10, 20}, 3, 4, 1, []int{3, 10, 18}}, {[]int{0, 10, 20}, 1, 1, 0, []int{0, 10, 20}}, {[]int{0, 10, 20}, 2, 1, 0, []int{0, 20}}, {[]int{0, 10, 20}, 3, 1, 0, []int{0}}, {[]int{0, 10, 20}, maxTap, 1, 0, []int{0}}, {[]int{0, 10, 20}, maxTap, maxTap, 0, []int{0, 10, 20}}, {[]int{0, 10, 20}, 1, 2, 0, []int{0, 5, 10, 15, 20}}, {[]int{0, 10, 20}, 1, 2, 1, []int{5, 10, 15, 20}}, {[]int{0, 10, 20}, 2, 2, 1, []int{5, 15}},
		{[]int{-1, 0}, 1, 2, 0, []int{-1, 0, 0}}, {[]int{0, -1}, 1, 2, 0, []int{0, 0, -1}}, {[]int{0, 1}, 1, 2, 0, []int{0, 1, 1}}, {[]int{1, 0}, 1, 2, 0, []int{1, 1, 0}}, {[]int{-2, -1}, 1, 2, 0, []int{-2, -1, -1}}, {[]int{1, 2}, 1, 2, 1, []int{2, 2}}, {[]int{-3, -2}, 1, 2, 1, []int{-2, -2}}, {[]int{3, -4}, 1, 2, 1, []int{0, -4}}, {[]int{3, -6}, 1, 2, 1, []int{-1, -6}}, {[]int{6, -3}, 1, 2, 1, []int{2, -3}}, {[]int{-5, -8}, 2, 2, 1, []int{-6}},
		{[]int{0, -1}, 1, 3, 0, []int{0, 0, -1, -1}}, {[]int{0, 1}, 1, 3, 0, []int{0, 0, 1, 1}}, {[]int{10, 13}, 2, 3, 1, []int{11, 13}}, {[]int{10, 13}, 1, 3, 2, []int{12, 13}}, {[]int{-10, 3}, 1, 4, 0, []int{-10, -7, -3, 0, 3}},
		{[]int{5, 6}, 10, 10, 0, []int{5, 6}}, {[]int{5, 6}, 10, 10, 1, []int{5}}, {[]int{5, 6}, 9, 10, 1, []int{5, 6}}, {[]int{5, 6}, 10, 10, 9, []int{6}}, {[]int{5, 6}, 1, 10, 9, []int{6, 6}}, {[]int{5, 6}, 11, 10, 0, []int{5}}, {[]int{5, 6}, 5, 10, 5, []int{6, 6}}, {[]int{5, 6}, 6, 10, 4, []int{5, 6}}, {[]int{5, 6}, 6, 10, 5, []int{6}}, {[]int{5, 105, 6}, 7, 10, 0, []int{5, 75, 65}},
		{[]int{most, -most}, 1, 2, 0, []int{most, 0, -most}}, {[]int{most, -most}, 333333, maxTap, 0, []int{most, 333334000, -333332000, -999998000}}, {[]int{most, most}, 333333, maxTap, 1, []int{most, most, most, most}}, {[]int{-most, -most}, 333333, maxTap, 0, []int{-most, -most, -most, -most}}, {[]int{-most, most}, maxTap, maxTap, maxTap - 1, []int{999998000}}, {[]int{0, 1}, maxTap - 1, maxTap, 0, []int{0, 1}}, {[]int{0, 1}, 1 + maxTap/2, maxTap, maxTap/2 - 1, []int{0, 1}}, {[]int{0, -1}, maxTap / 2, maxTap, maxTap / 2, []int{0, -1}},
	} {
		got, ok := impl.Drift(c.list, c.num, c.den, c.start)
		holdSignal(t, "Drift by hand", got, ok, c.want)
		holdSignal(t, "the oracle by hand", driftSlow(c.list, c.num, c.den, c.start), true, c.want)
	}
}

// driftHolds knows from the last place how many would be told, ahead of telling them.
func driftHolds(t *testing.T, list []int, num, den, start int) {
	t.Helper()
	got, ok := impl.Drift(list, num, den, start)
	last := den*len(list) - den - start
	if last >= 0 && last/num >= maxSignal {
		noSignal(t, "Drift that tells too many", got, ok)
		return
	}
	holdSignal(t, "Drift", got, ok, driftSlow(list, num, den, start))
}

func TestRateDriftByAllSmallSteps(t *testing.T) {
	g := formSource(1121)
	for den := 1; den <= 9; den++ {
		for num := 1; num <= 20; num++ {
			for start := range den {
				for _, n := range []int{0, 1, 2, 3, 7} {
					driftHolds(t, g.signal(3, n), num, den, start)
					driftHolds(t, g.atEnds(maxSample, n), num, den, start)
				}
			}
		}
	}
}

func TestRateDriftOfManySignals(t *testing.T) {
	g := formSource(1122)
	manySignals(1123, maxSample, func(list []int) {
		for range 6 {
			den := 1 + int(g.next()%maxTap)
			num := den/2 + 1 + int(g.next()%maxTap)
			driftHolds(t, list, min(num, maxTap), den, int(g.next()%uint64(den)))
		}
		driftHolds(t, list, maxTap, maxTap, maxTap-1)
		driftHolds(t, list, maxTap-1, maxTap, 0)
		driftHolds(t, list, maxTap, maxTap-1, maxTap-2)
		driftHolds(t, list, 7, 2, 1)
	})
	shortSignals(2, 3, func(list []int) {
		for _, den := range []int{2, 3, 4} {
			for start := range den {
				driftHolds(t, list, 1, den, start)
			}
		}
	})
}

func TestRateDriftOfJustMaxSignal(t *testing.T) {
	g := formSource(1124)
	for _, c := range []struct{ n, num, den, start, told int }{
		{2, 1, 511, 0, 512}, {2, 1, 512, 0, 513}, {2, 1, 512, 1, 512}, {2, 1, 513, 1, 513}, {2, 1, 513, 2, 512}, {2, 2, 1023, 0, 512}, {2, 2, 1024, 0, 513}, {2, 2, 1024, 1, 512}, {2, 2, 1024, 2, 512}, {2, 1953, maxTap, 0, 513}, {2, 1953, maxTap, 64, 513}, {2, 1953, maxTap, 65, 512}, {2, 1956, maxTap, 0, 512},
		{512, 1, 1, 0, 512}, {512, maxTap, maxTap, 0, 512}, {512, 1000, 1000, 0, 512}, {512, 999, 1000, 0, 512}, {512, 998, 1000, 0, 513}, {512, 998, 1000, 24, 513}, {512, 998, 1000, 25, 512}, {512, 999998, maxTap, 0, 512}, {512, 998046, maxTap, 0, 513}, {512, 998047, maxTap, 0, 512}, {257, 1, 2, 0, 513}, {257, 1, 2, 1, 512}, {256, 1, 2, 0, 511}, {2, 1, maxTap, 0, maxTap + 1}, {512, 1, maxTap, maxTap - 1, 510000002}, {512, 1, 2, 0, 1023},
	} {
		list := g.signal(maxSample, c.n)
		got, ok := impl.Drift(list, c.num, c.den, c.start)
		if c.told > maxSignal {
			noSignal(t, "Drift that tells one more", got, ok)
			continue
		}
		holdSignal(t, "Drift of as many as there may be", got, ok, driftSlow(list, c.num, c.den, c.start))
		holdInt(t, "how many Drift tells", len(got), c.told, c)
	}
}

func TestRateDriftThatIsRefused(t *testing.T) {
	for _, list := range noSignals() {
		got, ok := impl.Drift(list, 1, 1, 0)
		noSignal(t, "Drift of no signal", got, ok)
		got, ok = impl.Drift(list, maxTap, 1, 0)
		noSignal(t, "Drift of no signal", got, ok)
		got, ok = impl.Drift(list, 5, 3, 2)
		noSignal(t, "Drift of no signal", got, ok)
	}
	for _, list := range [][]int{nil, {}, {1}, {1, 2, 3}} {
		for _, part := range noParts {
			for _, other := range append(noParts, 1, 2, maxTap) {
				for _, start := range []int{0, 1, -1, part - 1, other - 1} {
					got, ok := impl.Drift(list, part, other, start)
					noSignal(t, "Drift by no step", got, ok)
					got, ok = impl.Drift(list, other, part, start)
					noSignal(t, "Drift in no parts", got, ok)
				}
			}
		}
		for _, den := range []int{1, 2, 10, maxTap} {
			for _, start := range []int{-1, den, den + 1, -den, 2 * den, 1 << 32, -1 << 32, math.MaxInt, math.MinInt, math.MinInt + 1} {
				for _, num := range []int{1, den, maxTap} {
					got, ok := impl.Drift(list, num, den, start)
					noSignal(t, "Drift from no start", got, ok)
				}
			}
		}
	}
}

// Drifting by whole samples thins.
func TestRateDriftByWholeSamplesIsDown(t *testing.T) {
	g := formSource(1125)
	for _, n := range []int{0, 1, 2, 3, 17, 100, maxSignal} {
		list := g.atEnds(maxSample, n)
		for by := 1; by <= maxRate; by++ {
			for _, den := range []int{1, 2, 3, 10, 1000, maxTap / by} {
				for phase := range min(by, n) {
					want, okDown := impl.Down(list, by, phase)
					got, ok := impl.Drift(list[phase:], by*den, den, 0)
					holdSignal(t, "Drift by whole samples", got, ok && okDown, want)
				}
			}
		}
	}
}

func TestRateDelayByHand(t *testing.T) {
	const most = maxSample
	three := []int{8, 4, 2}
	for _, c := range []struct {
		list     []int
		num, den int
		want     []int
	}{
		{nil, 0, 1, nil}, {nil, 5, 3, nil}, {nil, maxTap, maxTap, nil}, {[]int{7}, 0, 1, []int{7}}, {[]int{7}, 1, 1, []int{0}}, {[]int{7}, 1, 2, []int{4}}, {[]int{7}, 0, maxTap, []int{7}}, {[]int{7}, maxTap, maxTap, []int{0}}, {[]int{7}, maxTap, 1, []int{0}},
		{three, 0, 1, three}, {three, 0, 7, three}, {three, 0, maxTap, three}, {three, 1, 2, []int{4, 6, 3}}, {three, 2, 2, []int{0, 8, 4}}, {three, 3, 2, []int{0, 4, 6}}, {three, 4, 2, []int{0, 0, 8}}, {three, 5, 2, []int{0, 0, 4}}, {three, 6, 2, []int{0, 0, 0}}, {three, 7, 2, []int{0, 0, 0}}, {three, 1, 1, []int{0, 8, 4}}, {three, 2, 1, []int{0, 0, 8}}, {three, 3, 1, []int{0, 0, 0}}, {three, maxTap, 1, []int{0, 0, 0}}, {three, maxTap, maxTap, []int{0, 8, 4}}, {three, maxTap / 2, maxTap, []int{4, 6, 3}}, {three, 1, maxTap, three}, {three, maxTap - 1, maxTap, []int{0, 8, 4}}, {three, 1, 4, []int{6, 5, 3}}, {three, 3, 4, []int{2, 7, 4}}, {three, 5, 4, []int{0, 6, 5}},
		{[]int{-1}, 1, 2, []int{0}}, {[]int{-3}, 1, 2, []int{-1}}, {[]int{1}, 1, 2, []int{1}}, {[]int{3}, 1, 2, []int{2}}, {[]int{-1}, 1, 3, []int{-1}}, {[]int{-1}, 2, 3, []int{0}}, {[]int{1}, 1, 3, []int{1}}, {[]int{1}, 2, 3, []int{0}}, {[]int{-2, -3}, 1, 2, []int{-1, -2}}, {[]int{0, -3}, 1, 2, []int{0, -1}},
		{[]int{most, -most}, 1, 2, []int{most / 2, 0}}, {[]int{-most, -most}, 1, maxTap, []int{-999999000, -most}}, {[]int{-most, most}, maxTap - 1, maxTap, []int{-1000, -999998000}},
	} {
		got, ok := impl.Delay(c.list, c.num, c.den)
		holdSignal(t, "Delay by hand", got, ok, c.want)
		holdSignal(t, "the oracle by hand", delaySlow(c.list, c.num, c.den), true, c.want)
	}
}

func delayHolds(t *testing.T, list []int, num, den int) {
	t.Helper()
	got, ok := impl.Delay(list, num, den)
	holdSignal(t, "Delay", got, ok, delaySlow(list, num, den))
}

func TestRateDelayBySmallSteps(t *testing.T) {
	g := formSource(1126)
	for den := 1; den <= 8; den++ {
		for num := range 6 * den {
			for _, n := range []int{0, 1, 2, 3, 5} {
				delayHolds(t, g.signal(3, n), num, den)
				delayHolds(t, g.atEnds(maxSample, n), num, den)
			}
		}
	}
	shortSignals(2, 3, func(list []int) {
		for num := range 9 {
			delayHolds(t, list, num, 2)
			delayHolds(t, list, num, 3)
		}
	})
}

func TestRateDelayOfManySignals(t *testing.T) {
	g := formSource(1127)
	manySignals(1128, maxSample, func(list []int) {
		n := len(list)
		for _, den := range []int{1, 2, 1 + int(g.next()%2000), 1 + int(g.next()%maxTap), maxTap - 1, maxTap} {
			for _, num := range []int{0, 1, den - 1, den, den + 1, n*den - den - 1, n*den - den, n*den - den + 1, n * den, int(g.next() % (maxTap + 1)), maxTap - 1, maxTap} {
				if num >= 0 && num <= maxTap {
					delayHolds(t, list, num, den)
				}
			}
		}
	})
}

func TestRateDelayThatIsRefused(t *testing.T) {
	for _, list := range noSignals() {
		for _, num := range []int{0, 1, 5, maxTap} {
			got, ok := impl.Delay(list, num, 3)
			noSignal(t, "Delay of no signal", got, ok)
			got, ok = impl.Delay(list, num, 1)
			noSignal(t, "Delay of no signal", got, ok)
		}
	}
	for _, list := range [][]int{nil, {}, {1}, {1, 2, 3}, make([]int, maxSignal)} {
		for _, den := range noParts {
			for _, num := range append(noParts, 1, 2, maxTap) {
				got, ok := impl.Delay(list, num, den)
				noSignal(t, "Delay in no parts", got, ok)
			}
		}
		for _, num := range append(beyond(maxTap), -1, -2, -maxTap) {
			for _, den := range []int{1, 2, maxTap} {
				got, ok := impl.Delay(list, num, den)
				noSignal(t, "Delay by no step", got, ok)
			}
		}
	}
}

// A delay of less than a sample is a drift of the list with a nought ahead; one of whole samples moves it on behind noughts.
func TestRateDelayIsDriftBehindNoughts(t *testing.T) {
	g := formSource(1129)
	for _, n := range []int{0, 1, 2, 3, 50, maxSignal - 1} {
		list := g.atEnds(maxSample, n)
		for _, den := range []int{2, 3, 4, 1000, maxTap} {
			for _, num := range []int{1, den / 2, den - 1} {
				want, okDrift := impl.Drift(append([]int{0}, list...), den, den, den-num)
				got, ok := impl.Delay(list, num, den)
				holdSignal(t, "Delay against Drift", got, ok && okDrift, want)
			}
		}
		for _, by := range []int{0, 1, 2, n - 1, n, n + 1, 600} {
			for _, den := range []int{1, 3, 1000} {
				if by >= 0 {
					want := append(make([]int, by), list...)[:n]
					got, ok := impl.Delay(list, by*den, den)
					holdSignal(t, "Delay by whole samples", got, ok, slices.Clone(want))
				}
			}
		}
	}
}
