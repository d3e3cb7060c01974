package tests

import (
	"slices"
	"testing"

	"loop.example/g00043/impl"
)

func wordsOfTexts(texts []string) [][]int {
	words := [][]int{}
	for _, text := range texts {
		words = append(words, bitsOfText(text))
	}
	return words
}

func TestParityBasisByHand(t *testing.T) {
	for _, c := range []struct {
		checks [][]int
		n      int
		want   []string
	}{
		{[][]int{{0, 1, 2}, {2, 3, 4}, {0, 3, 5}}, 6, []string{"101100", "011010", "110001"}},
		{nil, 1, []string{"1"}}, {nil, 3, []string{"100", "010", "001"}}, {[][]int{{0, 1}}, 2, []string{"11"}}, {[][]int{{0, 1}}, 3, []string{"110", "001"}}, {[][]int{{1, 2}}, 3, []string{"100", "011"}},
		// Checks alike, and one that is the sum of two others.
		{[][]int{{0, 1}, {0, 1}}, 2, []string{"11"}}, {[][]int{{0, 1}, {1, 2}, {0, 2}}, 3, []string{"111"}}, {[][]int{{0, 2}, {0, 1}, {1, 2}, {0, 2}}, 4, []string{"1110", "0001"}},
		// As many checks as bits, of which none hangs on others: the word of noughts alone, which is the sum of no words.
		{[][]int{{0, 1}, {1, 2}, {0, 1, 2}}, 3, nil}, {[][]int{{0, 1, 2}, {0, 1}, {1, 2}}, 4, []string{"0001"}},
		// The leading ones are not at the front.
		{[][]int{{2, 3}}, 4, []string{"1000", "0100", "0011"}}, {[][]int{{0, 1, 2, 3}, {0, 1}}, 4, []string{"1100", "0011"}}, {[][]int{{0, 1, 3}, {0, 1, 2}}, 4, []string{"1100", "1011"}},
	} {
		holdRows(t, "the oracle by hand", basisByColumns(c.checks, c.n), true, wordsOfTexts(c.want))
		holdRows(t, "the search by hand", basisOfAll(allGood(c.checks, c.n)), true, wordsOfTexts(c.want))
		got, ok := impl.Basis(c.checks, c.n)
		holdRows(t, "Basis by hand", got, ok, wordsOfTexts(c.want))
	}
}

// Up to ten bits all words are searched: those of the basis are among them, and each of them is a sum.
func TestParityBasisAgainstAllWords(t *testing.T) {
	for _, set := range smallChecks(1651, 10, 15) {
		all := allGood(set.checks, set.n)
		got, ok := impl.Basis(set.checks, set.n)
		holdRows(t, "Basis", got, ok, basisOfAll(all))
		holdRows(t, "all sums of a basis", sumsOfWords(got, set.n), true, all)
	}
}

// sumsOfWords are the sums of any of the words, in order.
func sumsOfWords(words [][]int, n int) [][]int {
	sums := [][]int{make([]int, n)}
	for _, word := range words {
		for _, sum := range slices.Clone(sums) {
			sums = append(sums, addedBits(sum, word))
		}
	}
	slices.SortFunc(sums, slices.Compare[[]int])
	return sums
}

func basisHolds(t *testing.T, set checkSet) [][]int {
	t.Helper()
	got, ok := impl.Basis(set.checks, set.n)
	holdRows(t, "Basis", got, ok, basisByColumns(set.checks, set.n))
	return got
}

func TestParityBasisOfWideChecks(t *testing.T) {
	for seed := range uint64(6) {
		for _, set := range wideChecks(1652 + seed) {
			basisHolds(t, set)
		}
	}
}

// Each word has a 1 of its own, where all others have 0, and these places ascend.
func TestParityBasisWordsHaveTheirOwnOnes(t *testing.T) {
	for _, set := range slices.Concat(smallChecks(1661, 12, 6), wideChecks(1662)) {
		words := basisHolds(t, set)
		ahead := -1
		for _, word := range words {
			own := lastOne(word)
			if own <= ahead {
				t.Errorf("the own places of the basis of %v do not ascend: %v", set.checks, words)
			}
			ahead = own
			sum := 0
			for _, other := range words {
				sum += other[own]
			}
			holdInt(t, "how many words have the own 1", sum, 1, set.checks, word)
		}
	}
}

// No check fails for a sum of words of the basis.
func TestParitySumsOfTheBasisFailNone(t *testing.T) {
	g := formSource(1663)
	for _, set := range slices.Concat(smallChecks(1664, 12, 6), wideChecks(1665)) {
		words, ok := impl.Basis(set.checks, set.n)
		if !ok {
			t.Fatalf("Basis of %v is refused", set.checks)
		}
		sums := slices.Concat([][]int{make([]int, set.n)}, words)
		for range 20 {
			sum := make([]int, set.n)
			for _, word := range words {
				if g.next()%2 == 1 {
					sum = addedBits(sum, word)
				}
			}
			sums = append(sums, sum)
		}
		for _, sum := range sums {
			fails, ok := impl.Fails(set.checks, sum)
			holdSignal(t, "Fails of a sum of words of Basis", fails, ok, nil)
			got, done, ok := impl.TurnBits(set.checks, sum, maxRounds)
			holdMended(t, "TurnBits of a sum of words of Basis", set.checks, got, done, ok, sum, 0, true)
		}
	}
}

// What is told as mended is a sum of those words of the basis whose own 1 it has.
func TestParityMendedWordsAreSumsOfTheBasis(t *testing.T) {
	g := formSource(1666)
	mended := 0
	for _, set := range slices.Concat(smallChecks(1667, 12, 8), wideChecks(1668)) {
		words, _ := impl.Basis(set.checks, set.n)
		for range 4 {
			turned, _, ok := impl.TurnBits(set.checks, g.flips(set.n), maxRounds)
			hinted, _, alsoOk := impl.PassHints(set.checks, g.signal(100, set.n), maxRounds)
			for at, word := range [][]int{turned, hinted} {
				if good := []bool{ok, alsoOk}[at]; !good {
					continue
				}
				mended++
				sum := make([]int, set.n)
				for _, b := range words {
					if word[lastOne(b)] == 1 {
						sum = addedBits(sum, b)
					}
				}
				holdSignal(t, "a mended word", word, true, sum)
			}
		}
	}
	if mended < 200 {
		t.Errorf("only %d words were mended", mended)
	}
}

// Checks in another order, or more that hang on them, have the same basis.
func TestParityBasisHangsOnTheChecksTogether(t *testing.T) {
	g := formSource(1669)
	for _, set := range wideChecks(1670) {
		want := basisHolds(t, set)
		turned := slices.Clone(set.checks)
		slices.Reverse(turned)
		got, ok := impl.Basis(turned, set.n)
		holdRows(t, "Basis of checks turned around", got, ok, want)
		if len(set.checks) == 0 || len(set.checks) == maxChecks {
			continue
		}
		more := append(slices.Clone(set.checks), set.checks[g.next()%uint64(len(set.checks))])
		got, ok = impl.Basis(more, set.n)
		holdRows(t, "Basis with a check twice", got, ok, want)
	}
}

// Without checks the words are those with a single 1.
func TestParityBasisWithoutChecks(t *testing.T) {
	for _, n := range []int{1, 2, 3, 64, maxWide - 1, maxWide} {
		want := [][]int{}
		for place := range n {
			word := make([]int, n)
			word[place] = 1
			want = append(want, word)
		}
		for _, checks := range [][][]int{nil, {}} {
			got, ok := impl.Basis(checks, n)
			holdRows(t, "Basis without checks", got, ok, want)
		}
	}
}

func TestParityBasisThatIsRefused(t *testing.T) {
	refused := func(what string, checks [][]int, n int) {
		t.Helper()
		got, ok := impl.Basis(checks, n)
		noRows(t, "Basis of "+what, got, ok)
	}
	for _, n := range noWideCounts {
		refused("a wrong width", nil, n)
		refused("a wrong width", [][]int{}, n)
		refused("a wrong width", [][]int{{0, 1}}, n)
	}
	for _, n := range []int{18, 40, maxWide} {
		for _, checks := range noChecksOf(n) {
			refused("no checks", checks, n)
		}
	}
	refused("a check in one bit", [][]int{{0, 1}}, 1)
	refused("checks for one bit more", [][]int{{0, 6}}, 6)
}
