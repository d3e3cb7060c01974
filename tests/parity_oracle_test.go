package tests

import (
	"maps"
	"math"
	"slices"
	"testing"

	"loop.example/g00043/impl"
)

// The oracle of parities: each bit is asked whether a check has it; rounds are done step by step, with a table of what each check has for each bit; the basis is searched among all words where these are few, and else each column is told as a sum of columns ahead of it.

const (
	maxChecks  = impl.MaxChecks
	maxWide    = impl.MaxWide
	maxRounds  = impl.MaxRounds
	maxInCheck = 16
	maxHint    = 1000
)

func failsSlow(checks [][]int, word []int) []int {
	told := []int{}
	for at, check := range checks {
		odd := false
		for place, bit := range word {
			odd = odd != (bit == 1 && slices.Contains(check, place))
		}
		if odd {
			told = append(told, at)
		}
	}
	return told
}

// worstSlow are the bits that are in the most of those checks.
func worstSlow(checks [][]int, fails []int, n int) []int {
	byCount := map[int][]int{}
	for place := range n {
		count := 0
		for _, at := range fails {
			if slices.Contains(checks[at], place) {
				count++
			}
		}
		byCount[count] = append(byCount[count], place)
	}
	return byCount[slices.Max(slices.Collect(maps.Keys(byCount)))]
}

func turnSlow(checks [][]int, word []int, rounds int) ([]int, int, bool) {
	word = slices.Clone(word)
	for done := 0; ; done++ {
		fails := failsSlow(checks, word)
		if len(fails) == 0 || done == rounds {
			return word, done, len(fails) == 0
		}
		for _, place := range worstSlow(checks, fails, len(word)) {
			word[place] = 1 - word[place]
		}
	}
}

// A checkedBit is a bit as one check has it.
type checkedBit struct{ check, place int }

// saidTo is what a bit says to one of its checks: its hint and what all other checks have for it (to no check, -1: its sum).
func saidTo(checks [][]int, hints []int, has map[checkedBit]int, to, place int) int {
	sum := hints[place]
	for at := range checks {
		if at != to {
			sum += has[checkedBit{at, place}]
		}
	}
	return sum
}

func hintedWord(checks [][]int, hints []int, has map[checkedBit]int) []int {
	word := []int{}
	for place := range hints {
		if saidTo(checks, hints, has, -1, place) < 0 {
			word = append(word, 1)
		} else {
			word = append(word, 0)
		}
	}
	return word
}

// heardBack is what a check has for a bit by what its other bits say.
func heardBack(said []int) int {
	sizes, below := []int{maxHint}, 0
	for _, x := range said {
		if x < 0 {
			below++
			x = -x
		}
		sizes = append(sizes, x)
	}
	if below%2 == 1 {
		return -slices.Min(sizes)
	}
	return slices.Min(sizes)
}

func hintRoundSlow(checks [][]int, hints []int, has map[checkedBit]int) map[checkedBit]int {
	next := map[checkedBit]int{}
	for at, check := range checks {
		for _, place := range check {
			said := []int{}
			for _, other := range check {
				if other != place {
					said = append(said, saidTo(checks, hints, has, at, other))
				}
			}
			next[checkedBit{at, place}] = heardBack(said)
		}
	}
	return next
}

func hintsSlow(checks [][]int, hints []int, rounds int) ([]int, int, bool) {
	has := map[checkedBit]int{}
	for done := 0; ; done++ {
		word := hintedWord(checks, hints, has)
		fails := failsSlow(checks, word)
		if len(fails) == 0 || done == rounds {
			return word, done, len(fails) == 0
		}
		has = hintRoundSlow(checks, hints, has)
	}
}

// allGood are all words of n bits for which no check fails.
func allGood(checks [][]int, n int) [][]int {
	words := [][]int{}
	for _, text := range allTexts(n) {
		if word := bitsOfText(text); len(failsSlow(checks, word)) == 0 {
			words = append(words, word)
		}
	}
	return words
}

func lastOne(word []int) int {
	last := -1
	for place, bit := range word {
		if bit == 1 {
			last = place
		}
	}
	return last
}

// basisOfAll: a column has no leading one where some word has its last 1 there, since that column is then a sum of columns ahead of it. Of all words just one has a 1 there and none at the other such columns.
func basisOfAll(words [][]int) [][]int {
	free := map[int]bool{}
	for _, word := range words {
		if last := lastOne(word); last >= 0 {
			free[last] = true
		}
	}
	told := [][]int{}
	for _, column := range slices.Sorted(maps.Keys(free)) {
		for _, word := range words {
			if word[column] == 1 && onesAmong(word, free) == 1 {
				told = append(told, word)
			}
		}
	}
	return told
}

func onesAmong(word []int, places map[int]bool) int {
	count := 0
	for place, bit := range word {
		if places[place] {
			count += bit
		}
	}
	return count
}

// A columnSum is a sum of columns: which checks have an odd number of them, and which columns they are.
type columnSum struct {
	rows    uint64
	columns []int
}

// basisByColumns tells each column as a sum of columns ahead of it, where it is one; those of which it is made are none themselves.
func basisByColumns(checks [][]int, n int) [][]int {
	known, told := []columnSum{}, [][]int{}
	for place := range n {
		own := columnSum{columns: make([]int, n)}
		own.columns[place] = 1
		for at, check := range checks {
			if slices.Contains(check, place) {
				own.rows |= 1 << at
			}
		}
		for _, k := range known {
			if own.rows^k.rows < own.rows {
				own = columnSum{own.rows ^ k.rows, addedBits(own.columns, k.columns)}
			}
		}
		if own.rows == 0 {
			told = append(told, own.columns)
			continue
		}
		known = append(known, own)
		slices.SortFunc(known, func(a, b columnSum) int {
			if a.rows > b.rows {
				return -1
			}
			return 1
		})
	}
	return told
}

// check gives one of so many bits at most, of any length that there is.
func (g *formSource) check(n, most int) []int {
	most = min(most, n, maxInCheck)
	return g.places(n, 2+int(g.next()%uint64(most-1)))
}

func (g *formSource) checks(n, count, most int) [][]int {
	checks := [][]int{}
	for range count {
		checks = append(checks, g.check(n, most))
	}
	return checks
}

// evenChecks has each bit in as many checks, and each check of as many bits: in layers, each of which shares all bits out anew.
func (g *formSource) evenChecks(n, size, layers int) [][]int {
	checks := [][]int{}
	for range layers {
		order := counted(n)
		for at := range order {
			other := at + int(g.next()%uint64(n-at))
			order[at], order[other] = order[other], order[at]
		}
		for from := 0; from+size <= n; from += size {
			checks = append(checks, slices.Sorted(slices.Values(order[from:from+size])))
		}
	}
	return checks
}

type checkSet struct {
	checks [][]int
	n      int
}

// smallChecks are few checks of up to so many bits, by chance; some of them alike, some hang on one another.
func smallChecks(seed uint64, most, times int) []checkSet {
	g := formSource(seed)
	sets := []checkSet{{nil, 1}, {[][]int{}, 1}}
	for n := 2; n <= most; n++ {
		sets = append(sets, checkSet{nil, n})
		for range times {
			sets = append(sets, checkSet{g.checks(n, 1+int(g.next()%uint64(n+2)), 2+int(g.next()%5)), n})
		}
	}
	return sets
}

// wideChecks are of all sizes up to the limits.
func wideChecks(seed uint64) []checkSet {
	g := formSource(seed)
	sets := []checkSet{{nil, maxWide}, {g.checks(2, maxChecks, 2), 2}, {g.checks(3, maxChecks, 3), 3}, {g.checks(maxWide, maxChecks, maxInCheck), maxWide}, {g.checks(maxWide, maxChecks, 3), maxWide}, {g.checks(maxWide-1, maxChecks-1, 6), maxWide - 1}, {g.checks(16, maxChecks, maxInCheck), 16}, {g.checks(17, maxChecks, maxInCheck), 17}, {g.checks(40, maxChecks, 4), 40}, {g.checks(maxChecks, maxChecks, 8), maxChecks}, {chainOfChecks(maxChecks + 1), maxChecks + 1}, {chainOfChecks(20), maxWide}}
	for _, shape := range [][3]int{{maxWide, 8, 4}, {120, 6, 3}, {96, 6, 3}, {60, 4, 3}, {30, 5, 3}, {24, 4, 4}, {maxWide, 16, 8}, {12, 3, 3}} {
		sets = append(sets, checkSet{g.evenChecks(shape[0], shape[1], shape[2]), shape[0]})
	}
	return sets
}

// chainOfChecks has each bit's neighbour in a check with it.
func chainOfChecks(n int) [][]int {
	checks := [][]int{}
	for place := range n - 1 {
		checks = append(checks, []int{place, place + 1})
	}
	return checks
}

var (
	noRoundCounts = []int{-1, maxRounds + 1, -2, maxRounds + 2, -maxRounds, 256, 1 << 32, 1<<32 + 1, 1 - 1<<32, math.MaxInt, math.MinInt, math.MinInt + 1}
	someRounds    = []int{0, 1, 2, 3, 7, maxRounds - 1, maxRounds}
	noWideCounts  = []int{-1, 0, maxWide + 1, -2, maxWide + 2, -maxWide, 256, 1 << 32, 1<<32 + 6, 6 - 1<<32, math.MaxInt, math.MinInt, math.MinInt + 6}
)

// noChecksOf are none for n bits (at least 18), the fault in the first check, in the last one, or between.
func noChecksOf(n int) [][][]int {
	wrong := [][]int{
		{}, {0}, {n - 1}, counted(17), counted(18), append(counted(15), n-2, n-1), {0, 0}, {n - 1, n - 1}, {1, 0}, {0, 2, 1}, {1, 0, 2}, {2, 1, 3}, {0, 1, 1}, {0, 0, 1}, {3, 4, 4, 5}, {5, 4, 3},
		{-1, 0}, {-1, 0, 1}, {0, -1}, {-2, -1}, {0, n}, {n - 1, n}, {0, 1, n}, {n, n + 1}, {0, n + 1}, {n, 0}, {n - 1, 0}, {0, 1, 0}, append(counted(15), 14), append(counted(15), n), append([]int{-1}, counted(15)...),
		{0, 1 << 32}, {0, 1<<32 + 1}, {1 - 1<<32, 2}, {0, math.MaxInt}, {math.MinInt, 0}, {math.MinInt, math.MaxInt}, {math.MaxInt, math.MinInt}, {0, math.MinInt}, {-1 << 32, 0},
	}
	told := [][][]int{slices.Repeat([][]int{{0, 1}}, maxChecks+1), slices.Repeat([][]int{{0, 1}}, maxChecks+2), slices.Repeat([][]int{{0, 1}}, 5000), make([][]int, maxChecks), make([][]int, maxChecks+1)}
	for _, check := range wrong {
		full := slices.Repeat([][]int{{0, 1}}, maxChecks)
		full[maxChecks-1] = check
		told = append(told, [][]int{check}, [][]int{check, {0, 1}, {1, 2}}, [][]int{{0, 1}, check, {1, 2}}, [][]int{{0, 1}, {1, 2}, check}, full)
	}
	return told
}

func failsHold(t *testing.T, checks [][]int, word []int) {
	t.Helper()
	got, ok := impl.Fails(checks, word)
	holdSignal(t, "Fails", got, ok, failsSlow(checks, word))
}

// holdMended wants that answer, and that its truth is what Fails tells of its word.
func holdMended(t *testing.T, what string, checks [][]int, got []int, done int, ok bool, want []int, wantDone int, wantOk bool) {
	t.Helper()
	if !slices.Equal(got, want) || done != wantDone || ok != wantOk {
		t.Errorf("%s with %v is %v in %d, %v, not %v in %d, %v", what, checks, got, done, ok, want, wantDone, wantOk)
		return
	}
	if fails, good := impl.Fails(checks, got); !good || ok != (len(fails) == 0) {
		t.Errorf("%s with %v is %v, %v, but %v fail, %v", what, checks, got, ok, fails, good)
	}
}

func turnBitsHold(t *testing.T, checks [][]int, word []int, rounds int) {
	t.Helper()
	got, done, ok := impl.TurnBits(checks, word, rounds)
	want, wantDone, wantOk := turnSlow(checks, word, rounds)
	holdMended(t, "TurnBits", checks, got, done, ok, want, wantDone, wantOk)
}

func hintsHold(t *testing.T, checks [][]int, hints []int, rounds int) {
	t.Helper()
	got, done, ok := impl.PassHints(checks, hints, rounds)
	want, wantDone, wantOk := hintsSlow(checks, hints, rounds)
	holdMended(t, "PassHints", checks, got, done, ok, want, wantDone, wantOk)
}

func noMended(t *testing.T, what string, got []int, done int, ok bool) {
	t.Helper()
	if ok || len(got) != 0 || done != 0 {
		t.Errorf("%s is not refused: %v in %d, %v", what, got, done, ok)
	}
}
