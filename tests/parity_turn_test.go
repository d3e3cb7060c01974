package tests

import (
	"slices"
	"testing"

	"loop.example/g00043/impl"
)

func TestParityTurnBitsByHand(t *testing.T) {
	three := [][]int{{0, 1, 2}, {2, 3, 4}, {0, 3, 5}}
	for _, c := range []struct {
		checks [][]int
		word   string
		rounds int
		want   string
		done   int
		ok     bool
	}{
		{three, "100000", 5, "000000", 1, true}, {three, "100000", 1, "000000", 1, true}, {three, "100000", 0, "100000", 0, false}, {three, "101100", 0, "101100", 0, true}, {three, "101100", 50, "101100", 0, true}, {three, "001000", 9, "000000", 1, true},
		// Of the one check that fails all three bits count 1, and turned they let the two others fail; of these the bit 3 counts 2, and turned alone it lets none fail.
		{three, "010000", 1, "101000", 1, false}, {three, "010000", 2, "101100", 2, true}, {three, "010000", 50, "101100", 2, true},
		{nil, "1", 0, "1", 0, true}, {nil, "0110", 50, "0110", 0, true},
		// Both bits count 1, are turned both, and for ever.
		{[][]int{{0, 1}}, "10", 0, "10", 0, false}, {[][]int{{0, 1}}, "10", 1, "01", 1, false}, {[][]int{{0, 1}}, "10", 2, "10", 2, false}, {[][]int{{0, 1}}, "10", 49, "01", 49, false}, {[][]int{{0, 1}}, "10", 50, "10", 50, false}, {[][]int{{0, 1}}, "11", 50, "11", 0, true},
		// Of three bits of a check all are turned at once: an odd number of them.
		{[][]int{{0, 1, 2}}, "100", 50, "011", 1, true}, {[][]int{{0, 1, 2}}, "111", 1, "000", 1, true}, {[][]int{{0, 1, 2, 3}}, "1000", 3, "0111", 3, false},
		// Bits that are in no check stay.
		{[][]int{{1, 2, 3}}, "11000", 7, "10110", 1, true},
		// Checks alike count as often as they stand there.
		{[][]int{{0, 1, 2}, {2, 3, 4}, {2, 3, 4}}, "00100", 4, "00000", 1, true}, {[][]int{{0, 1}, {2, 3}, {2, 3}}, "1010", 1, "1001", 1, false}, {[][]int{{0, 1}, {2, 3}}, "1010", 1, "0101", 1, false},
	} {
		want, done, ok := turnSlow(c.checks, bitsOfText(c.word), c.rounds)
		holdMended(t, "the oracle by hand", c.checks, want, done, ok, bitsOfText(c.want), c.done, c.ok)
		got, done, ok := impl.TurnBits(c.checks, bitsOfText(c.word), c.rounds)
		holdMended(t, "TurnBits by hand", c.checks, got, done, ok, bitsOfText(c.want), c.done, c.ok)
	}
}

func TestParityTurnBitsOfAllShortWords(t *testing.T) {
	for _, set := range smallChecks(1611, 6, 6) {
		for _, text := range allTexts(set.n) {
			for _, rounds := range []int{0, 1, 2, 3, 8, maxRounds} {
				turnBitsHold(t, set.checks, bitsOfText(text), rounds)
			}
		}
	}
}

func TestParityTurnBitsOfWideWords(t *testing.T) {
	g := formSource(1612)
	for _, set := range wideChecks(1613) {
		for _, rounds := range someRounds {
			turnBitsHold(t, set.checks, g.flips(set.n), rounds)
			few := make([]int, set.n)
			for range 3 {
				few[g.next()%uint64(set.n)] = 1
			}
			turnBitsHold(t, set.checks, few, rounds)
		}
	}
}

// Each round is one round more of what one round tells.
func TestParityTurnBitsRoundByRound(t *testing.T) {
	g := formSource(1614)
	for _, set := range wideChecks(1615) {
		word := g.flips(set.n)
		now := slices.Clone(word)
		for rounds := range 8 {
			got, done, ok := impl.TurnBits(set.checks, word, rounds)
			fails := failsSlow(set.checks, now)
			if !slices.Equal(got, now) || ok != (len(fails) == 0) || !ok && done != rounds {
				t.Fatalf("TurnBits of %v with %v in %d rounds is %v in %d, %v, not %v", word, set.checks, rounds, got, done, ok, now)
			}
			now, _, _ = impl.TurnBits(set.checks, now, 1)
		}
	}
}

// A single bit that is hurt is turned back where it alone is in all checks that fail.
func TestParityTurnBitsMendsOneBit(t *testing.T) {
	g := formSource(1616)
	mended := 0
	for _, set := range wideChecks(1617) {
		for _, good := range g.goodWords(set, 3) {
			for place := range set.n {
				word := slices.Clone(good)
				word[place] = 1 - word[place]
				fails := failsSlow(set.checks, word)
				if len(fails) == 0 || len(worstSlow(set.checks, fails, set.n)) != 1 {
					continue
				}
				mended++
				got, done, ok := impl.TurnBits(set.checks, word, 1)
				holdMended(t, "TurnBits of one bit hurt", set.checks, got, done, ok, good, 1, true)
			}
		}
	}
	if mended < 1000 {
		t.Errorf("only %d words were mended", mended)
	}
}

// goodWords are sums of words of the basis.
func (g *formSource) goodWords(set checkSet, count int) [][]int {
	basis := basisByColumns(set.checks, set.n)
	words := [][]int{make([]int, set.n)}
	for range count {
		word := make([]int, set.n)
		for _, b := range basis {
			if g.next()%2 == 1 {
				word = addedBits(word, b)
			}
		}
		words = append(words, word)
	}
	return words
}

// A word that fails no check is told as it is, in no rounds.
func TestParityGoodWordsStay(t *testing.T) {
	g := formSource(1618)
	for _, set := range slices.Concat(smallChecks(1619, 9, 3), wideChecks(1620)) {
		for _, word := range g.goodWords(set, 4) {
			got, ok := impl.Fails(set.checks, word)
			holdSignal(t, "Fails of a good word", got, ok, nil)
			for _, rounds := range someRounds {
				got, done, ok := impl.TurnBits(set.checks, word, rounds)
				holdMended(t, "TurnBits of a good word", set.checks, got, done, ok, word, 0, true)
				got, done, ok = impl.PassHints(set.checks, g.hintsOf(word), rounds)
				holdMended(t, "PassHints of a good word", set.checks, got, done, ok, word, 0, true)
			}
		}
	}
}

// hintsOf has hints of all sizes whose word that is; a 0 may have the hint 0.
func (g *formSource) hintsOf(word []int) []int {
	hints := []int{}
	for at, x := range g.atEnds(maxHint, len(word)) {
		if word[at] == 0 {
			hints = append(hints, max(x, -x))
		} else {
			hints = append(hints, min(x, -x, -1))
		}
	}
	return hints
}

func TestParityTurnBitsThatAreRefused(t *testing.T) {
	refused := func(what string, checks [][]int, word []int, rounds int) {
		t.Helper()
		got, done, ok := impl.TurnBits(checks, word, rounds)
		noMended(t, "TurnBits of "+what, got, done, ok)
	}
	for _, rounds := range noRoundCounts {
		refused("wrong rounds", nil, []int{1}, rounds)
		refused("wrong rounds", [][]int{{0, 1}}, []int{1, 0}, rounds)
		refused("wrong rounds for a good word", [][]int{{0, 1}}, []int{1, 1}, rounds)
	}
	for _, rounds := range []int{0, 1, maxRounds} {
		for _, word := range [][]int{nil, {}, make([]int, maxWide+1), make([]int, maxBits), make([]int, maxBits+1)} {
			refused("a word of a wrong length", nil, word, rounds)
			refused("a word of a wrong length", [][]int{{0, 1}}, word, rounds)
		}
		for _, word := range slices.Concat(noWordsOf(5), noBitLists()) {
			refused("no bits", nil, word, rounds)
			refused("no bits", [][]int{{0, 1}}, word, rounds)
		}
		for _, checks := range noChecksOf(20) {
			refused("no checks", checks, make([]int, 20), rounds)
			refused("no checks", checks, slices.Repeat([]int{1}, 20), rounds)
		}
		refused("checks for one bit more", [][]int{{0, 6}}, make([]int, 6), rounds)
	}
}
