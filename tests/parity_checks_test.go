package tests

import (
	"math"
	"slices"
	"testing"

	"loop.example/g00043/impl"
)

func TestParityLimits(t *testing.T) {
	holdInt(t, "MaxChecks", maxChecks, 64)
	holdInt(t, "MaxWide", maxWide, 128)
	holdInt(t, "MaxRounds", maxRounds, 50)
}

func checksAre(t *testing.T, checks [][]int, n int, want bool) {
	t.Helper()
	if got := impl.ChecksOk(checks, n); got != want {
		t.Errorf("ChecksOk of %v for %d is %v", checks, n, got)
	}
}

func TestParityChecksByHand(t *testing.T) {
	for _, c := range []struct {
		checks [][]int
		n      int
		want   bool
	}{
		{nil, -1, false}, {nil, 0, false}, {nil, 1, true}, {nil, 2, true}, {nil, maxWide, true}, {nil, maxWide + 1, false}, {[][]int{}, 1, true}, {[][]int{}, 0, false},
		{[][]int{{0, 1}}, -1, false}, {[][]int{{0, 1}}, 0, false}, {[][]int{{0, 1}}, 1, false}, {[][]int{{0, 1}}, 2, true}, {[][]int{{0, 1}}, maxWide, true}, {[][]int{{0, 1}}, maxWide + 1, false},
		{[][]int{nil}, 5, false}, {[][]int{{}}, 5, false}, {[][]int{{0}}, 1, false}, {[][]int{{0}}, 5, false}, {[][]int{{4}}, 5, false}, {[][]int{{0, 4}}, 5, true}, {[][]int{{0, 5}}, 5, false}, {[][]int{{0, 6}}, 5, false}, {[][]int{{-1, 0}}, 5, false}, {[][]int{{-1, 4}}, 5, false},
		{[][]int{{1, 1}}, 5, false}, {[][]int{{2, 1}}, 5, false}, {[][]int{{0, 2, 1}}, 5, false}, {[][]int{{0, 2, 2}}, 5, false}, {[][]int{{0, 1, 2, 3, 4}}, 5, true}, {[][]int{{0, 1, 2, 3, 4}}, 4, false},
		{[][]int{counted(16)}, 16, true}, {[][]int{counted(16)}, 15, false}, {[][]int{counted(16)}, maxWide, true}, {[][]int{counted(17)}, 17, false}, {[][]int{counted(17)}, maxWide, false}, {[][]int{counted(18)}, maxWide, false},
		{[][]int{{maxWide - 2, maxWide - 1}}, maxWide, true}, {[][]int{{maxWide - 1, maxWide}}, maxWide, false}, {[][]int{{maxWide - 1, maxWide}}, maxWide + 1, false},
		{[][]int{{0, 1}, {0, 1}}, 2, true}, {[][]int{{1, 2}, {0, 1}}, 3, true}, {[][]int{{0, 1}, {1, 2}, {0}}, 3, false}, {[][]int{{0, 1}, {1, 3}, {0, 1}}, 3, false},
		{[][]int{{math.MinInt, math.MaxInt}}, 5, false}, {[][]int{{0, math.MaxInt}}, 5, false}, {[][]int{{math.MinInt, 0}}, 5, false},
	} {
		checksAre(t, c.checks, c.n, c.want)
	}
}

func TestParityChecksAtTheirLimits(t *testing.T) {
	g := formSource(1601)
	for _, n := range []int{2, 3, 16, 17, maxWide - 1, maxWide} {
		for range 20 {
			checks := g.checks(n, maxChecks, maxInCheck)
			checksAre(t, checks, n, true)
			checksAre(t, checks[1:], n, true)
			checksAre(t, append(checks, checks[0]), n, false)
			checksAre(t, append(checks, nil), n, false)
		}
	}
	full := slices.Repeat([][]int{append(counted(15), maxWide-1)}, maxChecks)
	checksAre(t, full, maxWide, true)
	checksAre(t, full, maxWide-1, false)
	for _, n := range noWideCounts {
		checksAre(t, nil, n, false)
		checksAre(t, [][]int{{0, 1}}, n, false)
		checksAre(t, full, n, false)
	}
}

// Just as many bits as the greatest place needs will do, and any more up to the limit.
func TestParityChecksForEachWidth(t *testing.T) {
	for last := 1; last < maxWide; last++ {
		for n := -1; n <= maxWide+1; n++ {
			checksAre(t, [][]int{{0, last}}, n, n > last && n <= maxWide)
		}
	}
}

func TestParityChecksOfEachLength(t *testing.T) {
	for size := range maxWide + 1 {
		checksAre(t, [][]int{counted(size)}, maxWide, size >= 2 && size <= 16)
		checksAre(t, [][]int{{0, 1}, counted(size)}, maxWide, size >= 2 && size <= 16)
	}
	for count := range 2 * maxChecks {
		checksAre(t, slices.Repeat([][]int{{0, 1}}, count), 2, count <= maxChecks)
	}
}

func TestParityChecksThatAreNone(t *testing.T) {
	for _, n := range []int{18, 40, maxWide - 1, maxWide} {
		for _, checks := range noChecksOf(n) {
			checksAre(t, checks, n, false)
		}
	}
}

// A check whose neighbours are exchanged, or made alike, is none.
func TestParityChecksOutOfOrder(t *testing.T) {
	g := formSource(1602)
	for range 200 {
		check := g.check(maxWide, maxInCheck)
		at := int(g.next() % uint64(len(check)-1))
		exchanged, alike := slices.Clone(check), slices.Clone(check)
		exchanged[at], exchanged[at+1] = check[at+1], check[at]
		alike[at] = alike[at+1]
		checksAre(t, [][]int{check}, maxWide, true)
		checksAre(t, [][]int{check, exchanged}, maxWide, false)
		checksAre(t, [][]int{alike, check}, maxWide, false)
	}
}

func TestParityFailsByHand(t *testing.T) {
	three := [][]int{{0, 1, 2}, {2, 3, 4}, {0, 3, 5}}
	for _, c := range []struct {
		checks [][]int
		word   string
		want   []int
	}{
		{three, "000000", nil}, {three, "100000", []int{0, 2}}, {three, "010000", []int{0}}, {three, "001000", []int{0, 1}}, {three, "000001", []int{2}}, {three, "101100", nil}, {three, "111111", []int{0, 1, 2}}, {three, "110001", nil}, {three, "110000", []int{2}},
		{nil, "0", nil}, {nil, "1", nil}, {nil, "101", nil}, {[][]int{{0, 1}}, "00", nil}, {[][]int{{0, 1}}, "01", []int{0}}, {[][]int{{0, 1}}, "10", []int{0}}, {[][]int{{0, 1}}, "11", nil},
		{[][]int{{0, 1}, {0, 1}, {1, 2}}, "100", []int{0, 1}}, {[][]int{{1, 2}, {0, 1}}, "111", nil},
	} {
		holdSignal(t, "the oracle by hand", failsSlow(c.checks, bitsOfText(c.word)), true, c.want)
		got, ok := impl.Fails(c.checks, bitsOfText(c.word))
		holdSignal(t, "Fails by hand", got, ok, c.want)
	}
}

func TestParityFailsOfAllShortWords(t *testing.T) {
	for _, set := range smallChecks(1603, 7, 6) {
		for _, text := range allTexts(set.n) {
			failsHold(t, set.checks, bitsOfText(text))
		}
	}
}

func TestParityFailsOfWideWords(t *testing.T) {
	g := formSource(1604)
	for _, set := range wideChecks(1605) {
		failsHold(t, set.checks, make([]int, set.n))
		failsHold(t, set.checks, slices.Repeat([]int{1}, set.n))
		for range 10 {
			failsHold(t, set.checks, g.flips(set.n))
		}
	}
}

// One bit turned changes just the checks that it is in.
func TestParityFailsOfOneBitTurned(t *testing.T) {
	g := formSource(1606)
	for _, set := range wideChecks(1607) {
		word := g.flips(set.n)
		ahead, _ := impl.Fails(set.checks, word)
		for range 5 {
			place := int(g.next() % uint64(set.n))
			word[place] = 1 - word[place]
			behind, ok := impl.Fails(set.checks, word)
			word[place] = 1 - word[place]
			for at, check := range set.checks {
				changed := slices.Contains(ahead, at) != slices.Contains(behind, at)
				if !ok || changed != slices.Contains(check, place) {
					t.Errorf("the check %v changes %v with the bit %d", check, changed, place)
				}
			}
		}
	}
}

func noFails(t *testing.T, what string, checks [][]int, word []int) {
	t.Helper()
	got, ok := impl.Fails(checks, word)
	noSignal(t, "Fails of "+what, got, ok)
}

func TestParityFailsThatAreRefused(t *testing.T) {
	for _, word := range [][]int{nil, {}, make([]int, maxWide+1), slices.Repeat([]int{1}, maxWide+1), make([]int, maxBits), make([]int, maxBits+1)} {
		noFails(t, "a word of a wrong length", nil, word)
		noFails(t, "a word of a wrong length", [][]int{{0, 1}}, word)
	}
	failsHold(t, [][]int{{0, maxWide - 1}}, append(make([]int, maxWide-1), 1))
	for _, word := range noWordsOf(6) {
		noFails(t, "no bits", nil, word)
		noFails(t, "no bits", [][]int{{0, 1}, {2, 5}}, word)
	}
	for _, list := range noBitLists() {
		noFails(t, "no bits", nil, list)
	}
	for _, n := range []int{18, maxWide} {
		for _, checks := range noChecksOf(n) {
			noFails(t, "no checks", checks, make([]int, n))
		}
	}
	noFails(t, "checks for one bit more", [][]int{{0, 6}}, make([]int, 6))
}

// noWordsOf have n numbers of which one is no bit.
func noWordsOf(n int) [][]int {
	words := [][]int{}
	for _, bad := range []int{2, -1, 3, -2, 256, 257, 1 << 32, 1<<32 + 1, 1 - 1<<32, math.MaxInt, math.MinInt, math.MinInt + 1} {
		for place := range n {
			word := slices.Repeat([]int{place % 2}, n)
			word[place] = bad
			words = append(words, word)
		}
	}
	return words
}
