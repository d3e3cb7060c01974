package tests

import (
	"math"
	"slices"
	"testing"

	"loop.example/g00043/impl"
)

func mendedWord(word []int, _ int, ok bool) ([]int, bool) { return word, ok }

// untouchedChecks lays each check into a room of its own with more behind it, and asks whether one of them was written into.
func untouchedChecks(t *testing.T, what string, checks [][]int, call func(checks [][]int)) {
	t.Helper()
	room := apart(checks)
	ahead := fullRows(room)
	call(room)
	if !slices.EqualFunc(fullRows(room), ahead, slices.Equal[[]int]) {
		t.Errorf("%s has written into the checks %v", what, ahead)
	}
}

// newWord is newMemory of a call that tells a word as it came, and with false beside it, too.
func newWord(t *testing.T, what string, checks [][]int, list []int, call func(checks [][]int, list []int) []int) {
	t.Helper()
	untouchedChecks(t, what, checks, func(checks [][]int) {
		newMemory(t, what, list, func(list []int) ([]int, bool) { return call(checks, list), true })
	})
}

func memorySets(seed uint64) []checkSet {
	return slices.Concat(smallChecks(seed, 5, 3), wideChecks(seed+1))
}

func TestParityAnswersAreNewMemory(t *testing.T) {
	g := formSource(1671)
	for _, set := range memorySets(1672) {
		for _, word := range append(g.goodWords(set, 2), g.flips(set.n), g.flips(set.n)) {
			newWord(t, "Fails", set.checks, word, func(checks [][]int, word []int) []int { return listOf(impl.Fails(checks, word)) })
			for _, rounds := range []int{0, 1, 4} {
				newWord(t, "TurnBits", set.checks, word, func(checks [][]int, word []int) []int {
					return listOf(mendedWord(impl.TurnBits(checks, word, rounds)))
				})
				newWord(t, "PassHints", set.checks, g.hintsOf(word), func(checks [][]int, hints []int) []int {
					return listOf(mendedWord(impl.PassHints(checks, hints, rounds)))
				})
			}
		}
	}
}

func TestParityBasisIsNewMemory(t *testing.T) {
	for _, set := range memorySets(1674) {
		untouchedChecks(t, "Basis", set.checks, func(checks [][]int) {
			first, ok := impl.Basis(checks, set.n)
			want := basisByColumns(set.checks, set.n)
			holdRows(t, "Basis", first, ok, want)
			overwrite(t, first)
			clear(first[:cap(first)])
			again, ok := impl.Basis(checks, set.n)
			holdRows(t, "Basis, again,", again, ok, want)
		})
		untouchedChecks(t, "ChecksOk", set.checks, func(checks [][]int) { checksAre(t, checks, set.n, true) })
	}
}

// Checks that are one piece of memory, and a word that is one of them.
func TestParityArgumentsThatAreOne(t *testing.T) {
	both := []int{0, 1}
	checks := [][]int{both, both}
	for _, rounds := range []int{0, 1, 2} {
		turnBitsHold(t, checks, both, rounds)
		hintsHold(t, checks, both, rounds)
		hintsHold(t, [][]int{both, {0, 2}}, []int{-1, 2, 1}, rounds)
	}
	failsHold(t, checks, both)
	got, ok := impl.Basis(checks, 2)
	holdRows(t, "Basis of one check twice", got, ok, [][]int{{1, 1}})
	overwrite(t, got)
	for _, answer := range [][]int{listOf(impl.Fails(checks, both)), listOf(mendedWord(impl.TurnBits(checks, both, 0))), listOf(mendedWord(impl.TurnBits(checks, both, 1))), listOf(mendedWord(impl.PassHints(checks, both, 1)))} {
		overwriteNothing(t, both, answer)
	}
}

// What is refused is not written into either, nor handed out.
func TestParityRefusedArgumentsStay(t *testing.T) {
	for _, checks := range noChecksOf(18) {
		word := slices.Repeat([]int{1}, 18)
		untouchedChecks(t, "what is refused", checks, func(checks [][]int) {
			impl.ChecksOk(checks, 18)
			rows, _ := impl.Basis(checks, 18)
			overwrite(t, rows)
			overwriteNothing(t, word, listOf(impl.Fails(checks, word)))
			overwriteNothing(t, word, listOf(mendedWord(impl.TurnBits(checks, word, 5))))
			overwriteNothing(t, word, listOf(mendedWord(impl.PassHints(checks, word, 5))))
		})
	}
	checks := [][]int{{0, 1}, {1, 2}}
	for _, list := range slices.Concat(noBitLists(), noWordsOf(3), [][]int{{1001, 0, 0}, {0, 0, -1001}, {1}, make([]int, maxWide+1)}) {
		untouchedInts(t, "what is refused", list, func(piece []int) {
			overwriteNothing(t, piece, listOf(impl.Fails(checks, piece)))
			overwriteNothing(t, piece, listOf(mendedWord(impl.TurnBits(checks, piece, 5))))
			overwriteNothing(t, piece, listOf(mendedWord(impl.TurnBits(checks, piece, -1))))
			overwriteNothing(t, piece, listOf(mendedWord(impl.PassHints(checks, piece, 5))))
			overwriteNothing(t, piece, listOf(mendedWord(impl.PassHints(checks, piece, maxRounds+1))))
		})
	}
	holdRows(t, "the checks behind refusals", checks, true, [][]int{{0, 1}, {1, 2}})
}

// Behind the length of a list nothing is read.
func TestParityReadsNoSpareRoom(t *testing.T) {
	g := formSource(1676)
	for _, behind := range []int{0, 1, 2, -1, math.MaxInt, math.MinInt} {
		room := slices.Repeat([]int{behind}, 30)
		for _, set := range smallChecks(1677, 7, 2) {
			checks := [][]int{}
			for _, check := range set.checks {
				checks = append(checks, append(slices.Clone(check), room...)[:len(check)])
			}
			checks = append(checks, room, nil)[:len(checks)]
			word, hints := g.flips(set.n), g.signal(5, set.n)
			checksAre(t, checks, set.n, true)
			failsHold(t, checks, append(word, room...)[:set.n])
			turnBitsHold(t, checks, append(word, room...)[:set.n], 3)
			hintsHold(t, checks, append(hints, room...)[:set.n], 3)
			basisHolds(t, checkSet{checks, set.n})
		}
	}
	got, ok := impl.Fails([][]int{{0, 2}}, []int{1, 0, 1}[:2])
	noSignal(t, "Fails with a place behind the last", got, ok)
	checksAre(t, [][]int{[]int{0, 1, 2}[:1]}, 3, false)
}

// Nothing is kept: what is asked in between changes no answer.
func TestParityKeepsNothing(t *testing.T) {
	g := formSource(1678)
	sets := wideChecks(1679)
	for _, set := range sets {
		word, hints := g.flips(set.n), g.signal(20, set.n)
		for range 2 {
			other := sets[g.next()%uint64(len(sets))]
			impl.Basis(other.checks, other.n)
			impl.PassHints(other.checks, g.signal(20, other.n), 3)
			impl.PassHints(other.checks, hints, 3)
			turnBitsHold(t, set.checks, word, 3)
			hintsHold(t, set.checks, hints, 3)
			impl.TurnBits(other.checks, g.flips(other.n), 3)
			failsHold(t, set.checks, word)
			basisHolds(t, set)
		}
	}
}
