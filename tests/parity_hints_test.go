package tests

import (
	"math"
	"runtime"
	"slices"
	"sync"
	"testing"

	"loop.example/g00043/impl"
)

func TestParityHintsByHand(t *testing.T) {
	three := [][]int{{0, 1, 2}, {2, 3, 4}, {0, 3, 5}}
	chain, twice := [][]int{{0, 1}, {1, 2}}, [][]int{{1, 2}, {1, 2}}
	for _, c := range []struct {
		checks [][]int
		hints  []int
		rounds int
		want   string
		done   int
		ok     bool
	}{
		{three, []int{-1, 5, 5, 5, 5, 5}, 5, "000000", 1, true}, {three, []int{-1, 5, 5, 5, 5, 5}, 0, "100000", 0, false}, {three, make([]int, 6), 0, "000000", 0, true}, {three, make([]int, 6), 50, "000000", 0, true},
		{nil, []int{-1}, 0, "1", 0, true}, {nil, []int{0}, 50, "0", 0, true}, {nil, []int{-1000, 1000, 0}, 3, "100", 0, true},
		// The two hear each other: both sums come to 0, which is no 1.
		{[][]int{{0, 1}}, []int{-5, 5}, 50, "00", 1, true}, {[][]int{{0, 1}}, []int{-5, 4}, 50, "11", 1, true}, {[][]int{{0, 1}}, []int{-4, 5}, 50, "00", 1, true}, {[][]int{{0, 1}}, []int{-5, 0}, 50, "11", 1, true},
		// Of three bits with a hint of 0 between them nothing is heard that is not 0.
		{[][]int{{0, 1, 2}}, []int{-5, 0, 0}, 50, "100", 50, false}, {[][]int{{0, 1, 2}}, []int{-5, 0, 3}, 1, "110", 1, true}, {[][]int{{0, 1, 2}}, []int{-5, 0, -3}, 1, "101", 0, true}, {[][]int{{0, 1, 2}}, []int{-5, -4, -3}, 1, "110", 1, true}, {[][]int{{0, 1, 2}}, []int{-5, 3, 3}, 4, "100", 4, false},
		// The sums are 1, 3, -2, then -1, 1, 2, then 2, 2, 2: each check goes from those ahead, and takes out what it had.
		{[][]int{{1, 2}, {0, 2}}, []int{1, 3, -2}, 0, "001", 0, false}, {[][]int{{1, 2}, {0, 2}}, []int{1, 3, -2}, 1, "100", 1, false}, {[][]int{{1, 2}, {0, 2}}, []int{1, 3, -2}, 2, "000", 2, true}, {[][]int{{1, 2}, {0, 2}}, []int{1, 3, -2}, 50, "000", 2, true},
		// Two checks share both bits: -2, -2, 3, then -2, 4, -1, then -2, 0, 5.
		{twice, []int{-2, -2, 3}, 0, "110", 0, false}, {twice, []int{-2, -2, 3}, 1, "101", 1, false}, {twice, []int{-2, -2, 3}, 2, "100", 2, true},
		{twice, []int{-1, -3, 4}, 2, "110", 2, false}, {twice, []int{-1, -3, 4}, 3, "100", 3, true},
		// The bit 2 speaks with 1500 against the first one's 1000, which is cut to 1000 on its way: the sum comes to 0, and stays there.
		{chain, []int{1000, -500, -1000}, 50, "011", 50, false}, {chain, []int{999, -500, -1000}, 50, "111", 2, true}, {chain, []int{999, -500, -1000}, 1, "011", 1, false}, {chain, []int{1000, -500, -499}, 50, "000", 2, true}, {chain, []int{-1000, 500, 1000}, 50, "000", 2, true},
	} {
		want, done, ok := hintsSlow(c.checks, c.hints, c.rounds)
		holdMended(t, "the oracle by hand", c.checks, want, done, ok, bitsOfText(c.want), c.done, c.ok)
		got, done, ok := impl.PassHints(c.checks, c.hints, c.rounds)
		holdMended(t, "PassHints by hand", c.checks, got, done, ok, bitsOfText(c.want), c.done, c.ok)
	}
}

// All hints of a few sizes, with few bits.
func TestParityHintsOfAllShortLists(t *testing.T) {
	for _, set := range smallChecks(1631, 4, 8) {
		sizes := []int{-maxHint, -2, -1, 0, 1, maxHint}
		all := [][]int{{}}
		for range set.n {
			longer := [][]int{}
			for _, hints := range all {
				for _, x := range sizes {
					longer = append(longer, append(slices.Clone(hints), x))
				}
			}
			all = longer
		}
		for at, hints := range all {
			if at%(len(all)/200+1) == 0 {
				hintsHold(t, set.checks, hints, 4)
			}
		}
	}
}

func TestParityHintsOfSmallChecks(t *testing.T) {
	g := formSource(1632)
	for _, set := range smallChecks(1633, 10, 12) {
		for _, rounds := range []int{0, 1, 2, 3, 5, 20, maxRounds} {
			for _, most := range []int{1, 3, 20, maxHint} {
				hintsHold(t, set.checks, g.signal(most, set.n), rounds)
			}
			hintsHold(t, set.checks, g.atEnds(maxHint, set.n), rounds)
		}
	}
}

func TestParityHintsOfWideChecks(t *testing.T) {
	g := formSource(1634)
	for _, set := range wideChecks(1635) {
		for _, rounds := range []int{0, 1, 2, 5} {
			hintsHold(t, set.checks, g.signal(maxHint, set.n), rounds)
			hintsHold(t, set.checks, g.signal(2, set.n), rounds)
		}
		hintsHold(t, set.checks, g.atEnds(maxHint, set.n), maxRounds)
	}
}

// Sums that grow far beyond what a hint may be: the numbers that checks have are cut, the sums are not.
func TestParityHintsThatGrow(t *testing.T) {
	g := formSource(1636)
	cut := 0
	for range 300 {
		n := 2 + int(g.next()%5)
		checks := g.checks(n, 3+int(g.next()%12), 3)
		hints := g.of([]int{maxHint, -maxHint, maxHint - 1, 1 - maxHint, 700, -700, 1, -1, 0}, n)
		if grows(checks, hints, 6) {
			cut++
		}
		for _, rounds := range []int{1, 2, 3, 4, 6, maxRounds} {
			hintsHold(t, checks, hints, rounds)
		}
	}
	if cut < 100 {
		t.Errorf("only %d of 300 go beyond %d", cut, maxHint)
	}
}

// grows tells whether a bit says more than maxHint to a check while checks fail.
func grows(checks [][]int, hints []int, rounds int) bool {
	has := map[checkedBit]int{}
	for range rounds {
		if len(failsSlow(checks, hintedWord(checks, hints, has))) == 0 {
			return false
		}
		has = hintRoundSlow(checks, hints, has)
		for at, check := range checks {
			for _, place := range check {
				if said := saidTo(checks, hints, has, at, place); said > maxHint || said < -maxHint {
					return true
				}
			}
		}
	}
	return false
}

// oneByOneSlow is what would come out if each check went from the sums that the checks ahead of it leave.
func oneByOneSlow(checks [][]int, hints []int, rounds int) ([]int, int, bool) {
	has := map[checkedBit]int{}
	for done := 0; ; done++ {
		word := hintedWord(checks, hints, has)
		fails := failsSlow(checks, word)
		if len(fails) == 0 || done == rounds {
			return word, done, len(fails) == 0
		}
		for at, check := range checks {
			next := hintRoundSlow(checks, hints, has)
			for _, place := range check {
				has[checkedBit{at, place}] = next[checkedBit{at, place}]
			}
		}
	}
}

// In many of these cases rounds in which sums change on the way come out otherwise, so that it is to be seen which sums a round takes.
func TestParityHintsTakeTheSumsAheadOfTheRound(t *testing.T) {
	g := formSource(1637)
	otherwise := 0
	for range 300 {
		n := 3 + int(g.next()%6)
		checks := g.checks(n, 2+int(g.next()%5), 4)
		hints := g.signal(9, n)
		rounds := 1 + int(g.next()%3)
		word, done, ok := hintsSlow(checks, hints, rounds)
		other, otherDone, otherOk := oneByOneSlow(checks, hints, rounds)
		if !slices.Equal(word, other) || done != otherDone || ok != otherOk {
			otherwise++
		}
		hintsHold(t, checks, hints, rounds)
	}
	if otherwise < 60 {
		t.Errorf("only %d of 300 hang on which sums a round takes", otherwise)
	}
}

// The order of checks plays no part.
func TestParityHintsInAnyOrderOfChecks(t *testing.T) {
	g := formSource(1638)
	for _, set := range wideChecks(1639) {
		hints := g.signal(50, set.n)
		want, wantDone, wantOk := impl.PassHints(set.checks, hints, 6)
		turned := slices.Clone(set.checks)
		slices.Reverse(turned)
		got, done, ok := impl.PassHints(turned, hints, 6)
		holdMended(t, "PassHints, the checks turned around,", turned, got, done, ok, want, wantDone, wantOk)
	}
}

// Hints that are weak where bits were hurt are enough to find the word again.
func TestParityHintsMend(t *testing.T) {
	g := formSource(1640)
	checks := g.evenChecks(120, 6, 3)
	mended := 0
	for _, good := range g.goodWords(checkSet{checks, 120}, 40) {
		hints := []int{}
		for _, bit := range good {
			hints = append(hints, (1-2*bit)*500)
		}
		for _, place := range g.places(120, 4) {
			hints[place] /= -5
		}
		got, done, ok := impl.PassHints(checks, hints, maxRounds)
		want, wantDone, wantOk := hintsSlow(checks, hints, maxRounds)
		holdMended(t, "PassHints of a hurt word", checks, got, done, ok, want, wantDone, wantOk)
		if ok && slices.Equal(got, good) && done > 0 {
			mended++
		}
	}
	if mended < 30 {
		t.Errorf("only %d of 41 words were mended", mended)
	}
}

func TestParityHintsThatAreRefused(t *testing.T) {
	refused := func(what string, checks [][]int, hints []int, rounds int) {
		t.Helper()
		got, done, ok := impl.PassHints(checks, hints, rounds)
		noMended(t, "PassHints of "+what, got, done, ok)
	}
	for _, rounds := range noRoundCounts {
		refused("wrong rounds", nil, []int{1}, rounds)
		refused("wrong rounds", [][]int{{0, 1}}, []int{-1, 1}, rounds)
		refused("wrong rounds for a good word", [][]int{{0, 1}}, []int{1, 1}, rounds)
	}
	for _, rounds := range []int{0, 1, maxRounds} {
		for _, n := range []int{0, maxWide + 1, maxWide + 2, maxBits, maxBits + 1, 5000} {
			refused("too few or too many hints", nil, make([]int, n), rounds)
			refused("too few or too many hints", [][]int{{0, 1}}, make([]int, n), rounds)
		}
		for _, bad := range []int{maxHint + 1, -maxHint - 1, maxHint + 2, 1 << 32, 1<<32 + 1, -1 << 32, math.MaxInt, math.MinInt, math.MinInt + 1} {
			for place := range 4 {
				hints := []int{1, 1, 1, 1}
				hints[place] = bad
				refused("hints that are too great", nil, hints, rounds)
				refused("hints that are too great", [][]int{{0, 1, 2}}, hints, rounds)
			}
			refused("hints that are too great", nil, append(make([]int, maxWide-1), bad), rounds)
		}
		for _, checks := range noChecksOf(20) {
			refused("no checks", checks, make([]int, 20), rounds)
			refused("no checks", checks, slices.Repeat([]int{-5}, 20), rounds)
		}
		refused("checks for one bit more", [][]int{{0, 6}}, make([]int, 6), rounds)
	}
	hintsHold(t, nil, slices.Repeat([]int{maxHint, -maxHint}, maxWide/2), 0)
}

// A hintsCase is one question with the oracle's answer.
type hintsCase struct {
	checks [][]int
	hints  []int
	word   []int
	done   int
	ok     bool
}

func hintsCases(seed uint64) []hintsCase {
	g := formSource(seed)
	cases := []hintsCase{}
	for _, set := range wideChecks(seed + 1) {
		c := hintsCase{checks: set.checks, hints: g.signal(30, set.n)}
		c.word, c.done, c.ok = hintsSlow(c.checks, c.hints, 5)
		cases = append(cases, c)
	}
	return cases
}

func (c hintsCase) holds(t *testing.T, what string) {
	t.Helper()
	got, done, ok := impl.PassHints(c.checks, c.hints, 5)
	holdMended(t, "PassHints, "+what+",", c.checks, got, done, ok, c.word, c.done, c.ok)
}

// However many goroutines run at one time, and in whatever order, the answer is the same.
func TestParityHintsUnderAnyOrderOfGoroutines(t *testing.T) {
	cases := hintsCases(1641)
	for _, threads := range []int{1, 2, 3, 16} {
		ahead := runtime.GOMAXPROCS(threads)
		for range 20 {
			for _, c := range cases {
				c.holds(t, "again")
			}
		}
		runtime.GOMAXPROCS(ahead)
	}
}

func TestParityHintsAtTheSameTime(t *testing.T) {
	cases := hintsCases(1643)
	var all sync.WaitGroup
	for call := range 200 {
		all.Go(func() { cases[call%len(cases)].holds(t, "at one time with others") })
	}
	all.Wait()
}

// leftBehind is how many goroutines more than ahead are there when all others had many turns to end.
func leftBehind(ahead int) int {
	for range 100000 {
		if runtime.NumGoroutine() <= ahead {
			return 0
		}
		runtime.Gosched()
	}
	return runtime.NumGoroutine() - ahead
}

// No goroutine goes on behind a call, whether its word was good, mended, not mended, or refused.
func TestParityNoGoroutineGoesOn(t *testing.T) {
	g := formSource(1645)
	full := slices.Repeat([][]int{counted(maxInCheck)}, maxChecks)
	ahead := runtime.NumGoroutine()
	for _, set := range append(wideChecks(1646), checkSet{full, maxWide}, checkSet{[][]int{{0, 1}, {0, 9}}, 5}, checkSet{[][]int{{0, 1}}, maxWide + 1}) {
		for _, rounds := range []int{0, 1, 2, maxRounds, maxRounds + 1, -1} {
			impl.PassHints(set.checks, g.signal(3, set.n), rounds)
			impl.PassHints(set.checks, slices.Repeat([]int{maxHint}, set.n), rounds)
			impl.PassHints(set.checks, slices.Repeat([]int{maxHint + 1}, set.n), rounds)
			impl.TurnBits(set.checks, g.flips(set.n), rounds)
			impl.Fails(set.checks, g.flips(set.n))
			impl.Basis(set.checks, set.n)
			if left := leftBehind(ahead); left > 0 {
				t.Fatalf("%d goroutines go on behind calls with %v and %d rounds", left, set.checks, rounds)
			}
		}
	}
}
