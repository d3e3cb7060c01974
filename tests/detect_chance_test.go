package tests

import (
	"math/big"
	"testing"

	"loop.example/g00043/impl"
)

func TestDetectWaysByHand(t *testing.T) {
	for _, c := range []struct{ n, at, want int }{
		{0, 0, 1}, {0, 1, 0}, {0, -1, 1}, {0, -1 << 40, 1}, {0, 1 << 40, 0}, {1, -2, 2}, {1, -1, 2}, {1, 0, 1}, {1, 1, 1}, {1, 2, 0}, {2, -2, 4}, {2, -1, 3}, {2, 0, 3}, {2, 1, 1}, {2, 2, 1}, {2, 3, 0}, {3, -3, 8}, {3, -2, 7}, {3, -1, 7}, {3, 0, 4}, {3, 1, 4}, {3, 2, 1}, {3, 3, 1}, {3, 4, 0},
		{4, 2, 5}, {4, 1, 5}, {4, -4, 16}, {4, -3, 15}, {4, -5, 16}, {4, 0, 11}, {4, 4, 1}, {4, 3, 1}, {4, 5, 0}, {10, 0, 638}, {10, 1, 386}, {10, 2, 386}, {10, 8, 11}, {20, 0, 616666},
		{60, -60, 1 << 60}, {60, -61, 1 << 60}, {60, -59, 1<<60 - 1}, {60, -58, 1<<60 - 1}, {60, -57, 1<<60 - 61}, {60, 60, 1}, {60, 59, 1}, {60, 58, 61}, {60, 57, 61}, {60, 56, 1831}, {60, 61, 0}, {60, 62, 0}, {60, 2, (1<<60 - 118264581564861424) / 2}, {60, 0, (1<<60 + 118264581564861424) / 2}, {59, 1, 1 << 58}, {59, 0, 1 << 58}, {59, -59, 1 << 59},
	} {
		holdInt(t, "Ways by hand", impl.Ways(c.n, c.at), c.want, c.n, c.at)
		if got := waysBig(c.n, c.at); got.Cmp(bigOf(c.want)) != 0 {
			t.Errorf("the oracle's ways of %d at %d are %v, not %d", c.n, c.at, got, c.want)
		}
	}
}

func TestDetectWaysOfAllLists(t *testing.T) {
	for n := range 12 {
		for at := -n - 3; at <= n+3; at++ {
			holdInt(t, "Ways", impl.Ways(n, at), waysOfAll(n, at), n, at)
		}
	}
}

func TestDetectWaysOfAllCoins(t *testing.T) {
	for n := range maxCoins + 1 {
		for at := -n - 3; at <= n+3; at++ {
			holdBig(t, "Ways", impl.Ways(n, at), waysBig(n, at), n, at)
		}
		for _, at := range farOff {
			holdBig(t, "Ways far off", impl.Ways(n, at), waysBig(n, at), n, at)
		}
	}
}

func TestDetectWaysOfNoCoins(t *testing.T) {
	for _, n := range noCoins {
		for _, at := range append([]int{0, 1, -1, n, -n, n + 1, -n - 1}, farOff...) {
			holdInt(t, "Ways of no such count", impl.Ways(n, at), 0, n, at)
		}
	}
}

// What lies at a sum or above is as much as what lies at its opposite or below, for 1 and for each other one.
func TestDetectWaysAreAsManyOnBothSides(t *testing.T) {
	for n := range maxCoins + 1 {
		all := 1 << n
		holdInt(t, "Ways at 1 or more", impl.Ways(n, 1), all-impl.Ways(n, 0), n)
		for at := -n - 2; at <= n+2; at++ {
			holdInt(t, "Ways on this side", impl.Ways(n, at), all-impl.Ways(n, 1-at), n, at)
		}
	}
}

// One more coin lies either way: what is left has to make up for it.
func TestDetectWaysOfOneMore(t *testing.T) {
	for n := range maxCoins {
		for at := -n - 3; at <= n+3; at++ {
			holdInt(t, "Ways of one more", impl.Ways(n+1, at), impl.Ways(n, at-1)+impl.Ways(n, at+1), n, at)
		}
	}
}

func TestDetectThresholdByHand(t *testing.T) {
	for _, c := range []struct{ n, num, den, want int }{
		{0, 1, 1, 0}, {0, 1, 2, 1}, {0, 999, 1000, 1}, {0, 1000, 1000, 0}, {0, 1000, 1, 0}, {0, 1, 1000, 1}, {1, 1, 1, -1}, {1, 1, 2, 0}, {1, 999, 1000, 0}, {1, 499, 1000, 2}, {1, 500, 1000, 0}, {1, 501, 1000, 0}, {1, 1, 1000, 2}, {2, 3, 4, -1}, {2, 749, 1000, 1}, {2, 1, 4, 1}, {2, 249, 1000, 3}, {2, 750, 1000, -1},
		{4, 1, 16, 3}, {4, 5, 16, 1}, {4, 1, 1, -4}, {4, 1, 1000, 5}, {4, 2, 1, -4}, {4, 15, 16, -3}, {4, 14, 16, -1}, {4, 11, 16, -1}, {4, 10, 16, 1}, {4, 4, 16, 3}, {4, 62, 1000, 5}, {4, 63, 1000, 3}, {9, 1, 512, 8}, {9, 1, 513, 10}, {9, 1, 511, 8}, {9, 2, 1000, 8}, {9, 1, 1000, 10}, {10, 1, 1000, 9}, {3, 1, 8, 2}, {3, 1, 9, 4},
		{60, 1, 1, -60}, {60, 1000, 1000, -60}, {60, 1000, 999, -60}, {60, 1000, 1, -60}, {60, 999, 1000, -23}, {60, 1, 1000, 25}, {60, 1, 2, 1}, {59, 1, 2, 0}, {59, 500, 1000, 0}, {59, 499, 1000, 2}, {60, 1, 100, 19},
	} {
		got, ok := impl.Threshold(c.n, c.num, c.den)
		holdTap(t, "Threshold by hand", got, ok, c.want)
		holdTap(t, "the oracle by hand", thresholdSlow(c.n, c.num, c.den), true, c.want)
	}
}

func someChances() []int { return []int{1, 2, 3, 7, 16, 31, 499, 500, 501, 512, 998, 999, maxChance} }

func thresholdHolds(t *testing.T, n, num, den int) {
	t.Helper()
	got, ok := impl.Threshold(n, num, den)
	if want := thresholdSlow(n, num, den); !ok || got != want {
		t.Errorf("Threshold of %d, %d, %d is %d %v, not %d", n, num, den, got, ok, want)
	}
	if got < -n || got > n+1 {
		t.Errorf("Threshold of %d, %d, %d is %d", n, num, den, got)
	}
	if !isRare(bigOf(impl.Ways(n, got)), n, num, den) {
		t.Errorf("by chance more than %d in %d of %d numbers come up to %d", num, den, n, got)
	}
	if got > -n && isRare(bigOf(impl.Ways(n, got-1)), n, num, den) {
		t.Errorf("by chance no more than %d in %d of %d numbers come up to %d", num, den, n, got-1)
	}
}

func TestDetectThresholdOfAllCoins(t *testing.T) {
	for n := range maxCoins + 1 {
		for _, num := range someChances() {
			for _, den := range someChances() {
				thresholdHolds(t, n, num, den)
			}
		}
	}
}

// Where the ways of all lists are just so many in so many, they are taken, and one in so many less is not.
func TestDetectThresholdThatIsJustMet(t *testing.T) {
	for n := range 10 {
		for at := -n; at <= n; at++ {
			ways := waysOfAll(n, at)
			thresholdHolds(t, n, ways, 1<<n)
			if got, ok := impl.Threshold(n, ways, 1<<n); !ok || got > at {
				t.Errorf("Threshold of %d, %d, %d is %d %v, above %d", n, ways, 1<<n, got, ok, at)
			}
			if got, ok := impl.Threshold(n, ways-1, 1<<n); ways > 1 && (!ok || got <= at) {
				t.Errorf("Threshold of %d, %d, %d is %d %v, not above %d", n, ways-1, 1<<n, got, ok, at)
			}
		}
	}
}

func TestDetectThresholdOfManyChances(t *testing.T) {
	g := formSource(1201)
	for range 4000 {
		thresholdHolds(t, int(g.next()%(maxCoins+1)), 1+int(g.next()%maxChance), 1+int(g.next()%maxChance))
	}
	for den := 1; den <= maxChance; den++ {
		thresholdHolds(t, maxCoins, 1, den)
		thresholdHolds(t, maxCoins, den, maxChance)
		thresholdHolds(t, 9, 1, den)
	}
}

// Whoever allows more has no higher threshold, and equal shares have the same one.
func TestDetectThresholdFallsWithWhatIsAllowed(t *testing.T) {
	for _, n := range []int{0, 1, 2, 7, 30, maxCoins - 1, maxCoins} {
		ahead := n + 1
		for num := 1; num <= maxChance; num++ {
			got, ok := impl.Threshold(n, num, maxChance)
			if !ok || got > ahead {
				t.Errorf("Threshold of %d, %d, %d is %d %v behind %d", n, num, maxChance, got, ok, ahead)
			}
			ahead = got
		}
		holdInt(t, "Threshold of all", ahead, -n, n)
		for _, by := range []int{2, 3, 10} {
			first, _ := impl.Threshold(n, 7, 90)
			same, ok := impl.Threshold(n, 7*by, 90*by)
			holdTap(t, "Threshold of as great a share", same, ok, first)
		}
	}
}

// Each list of n numbers is a trial: no more of them than allowed come up to the threshold.
func TestDetectChanceSeldomPassesAThreshold(t *testing.T) {
	for n := range 11 {
		for _, num := range []int{1, 5, 50, 333, 999} {
			at, ok := impl.Threshold(n, num, maxChance)
			passed, more := waysOfAll(n, at), waysOfAll(n, at-1)
			if !ok || passed*maxChance > num<<n || at > -n && more*maxChance <= num<<n {
				t.Errorf("of %d lists %d come up to %d, %d to one less, with %d in %d allowed", 1<<n, passed, at, more, num, maxChance)
			}
		}
	}
}

func TestDetectThresholdThatIsRefused(t *testing.T) {
	for _, n := range noCoins {
		for _, num := range []int{1, 500, maxChance, 0, maxChance + 1} {
			got, ok := impl.Threshold(n, num, maxChance)
			noTap(t, "Threshold of no such count", got, ok)
			got, ok = impl.Threshold(n, 1, num)
			noTap(t, "Threshold of no such count", got, ok)
		}
	}
	for _, n := range []int{0, 1, 4, maxCoins, -1, maxCoins + 1} {
		for _, bad := range noChances {
			for _, good := range []int{1, 2, maxChance} {
				got, ok := impl.Threshold(n, bad, good)
				noTap(t, "Threshold of no such num", got, ok)
				got, ok = impl.Threshold(n, good, bad)
				noTap(t, "Threshold of no such den", got, ok)
			}
			got, ok := impl.Threshold(n, bad, bad)
			noTap(t, "Threshold of neither", got, ok)
		}
	}
}

// The oracles are held against each other.
func TestDetectOraclesOfChance(t *testing.T) {
	for n := range 10 {
		all := new(big.Int)
		for _, count := range coinTable()[n] {
			all.Add(all, count)
		}
		if all.Cmp(bigOf(1<<n)) != 0 {
			t.Errorf("there are %v lists of %d, not %d", all, n, 1<<n)
		}
		for at := -n - 1; at <= n+1; at++ {
			if got, want := waysBig(n, at), waysOfAll(n, at); got.Cmp(bigOf(want)) != 0 {
				t.Errorf("the ways of %d at %d are %v and %d", n, at, got, want)
			}
		}
	}
}
