package tests

import (
	"math"
	"math/big"
	"slices"
	"testing"

	"loop.example/g00043/impl"
)

// The oracle of lifting: each low and each high number worked out from the list by itself, with quotients of numbers without an end.
// The way back has no oracle of its own: no two lists are lifted to the same numbers, so that a list is the right one when the oracle lifts it to what was there.

const (
	maxLifted = 8 * impl.MaxSample
	maxLevels = impl.MaxLevels
)

var liftings = []int{impl.LiftMean, impl.LiftFive, impl.LiftNine}

var noLiftings = []int{0, 4, -1, 5, -2, -3, 1 << 32, 1<<32 + 1, 1<<32 + 3, math.MaxInt, math.MinInt, math.MinInt + 1}

var noLevels = []int{-1, maxLevels + 1, -2, maxLevels + 2, 1 << 32, 1<<32 + 1, -1 << 32, math.MaxInt, math.MinInt, math.MinInt + 1}

var liftLengths = []int{0, 1, 2, 3, 4, 5, 6, 7, 8, 9, 10, 15, 16, 17, 31, 33, 64, 100, 255, 256, 257, maxSignal - 1, maxSignal}

func downBy(sum *big.Int, by int) int { return int(lowerOf(sum, bigOf(by)).Int64()) }

func sumBig(list ...int) *big.Int {
	sum := new(big.Int)
	for _, x := range list {
		sum.Add(sum, bigOf(x))
	}
	return sum
}

// evenAt looks for the even number in the list itself.
func evenAt(list []int, i int) int {
	place := 2 * i
	for place < 0 {
		place += 2
	}
	for place >= len(list) {
		place -= 2
	}
	return list[place]
}

func highSlow(kind int, list []int, i int) int {
	odd, left, right := list[2*i+1], evenAt(list, i), evenAt(list, i+1)
	switch kind {
	case impl.LiftMean:
		return odd - left
	case impl.LiftFive:
		return odd - downBy(sumBig(left, right), 2)
	}
	sum := sumBig(-evenAt(list, i-1), -evenAt(list, i+2), 8)
	for range 9 {
		sum.Add(sum, sumBig(left, right))
	}
	return odd - downBy(sum, 16)
}

func lowSlow(kind int, list []int, i int) int {
	even, count := list[2*i], len(list)/2
	if count == 0 || kind == impl.LiftMean && i == count {
		return even
	}
	if kind == impl.LiftMean {
		return even + downBy(sumBig(highSlow(kind, list, i)), 2)
	}
	before, here := i-1, i
	if before < 0 {
		before = 0
	}
	if here == count {
		here = count - 1
	}
	return even + downBy(sumBig(highSlow(kind, list, before), highSlow(kind, list, here), 2), 4)
}

func onceSlow(kind int, list []int) ([]int, []int) {
	low, high := []int{}, []int{}
	for at := range list {
		if at%2 == 0 {
			low = append(low, lowSlow(kind, list, at/2))
		} else {
			high = append(high, highSlow(kind, list, at/2))
		}
	}
	return low, high
}

func liftSlow(kind int, list []int, levels int) []int {
	if levels == 0 || len(list) <= 1 {
		return list
	}
	low, high := onceSlow(kind, list)
	return slices.Concat(liftSlow(kind, low, levels-1), high)
}

func lift2Slow(kind int, rows [][]int) [][]int {
	if len(rows) == 0 || len(rows[0]) == 0 {
		return rows
	}
	along := [][]int{}
	for _, row := range rows {
		along = append(along, liftSlow(kind, row, 1))
	}
	down := [][]int{}
	for _, column := range turnedAround(along) {
		down = append(down, liftSlow(kind, column, 1))
	}
	return turnedAround(down)
}

// loud gives numbers of just so much in size, above 0 and below.
func (g *formSource) loud(most int, count int) []int {
	list := make([]int, 0, count)
	for range count {
		list = append(list, most*(1-2*int(g.next()>>63)))
	}
	return list
}

// atEnds gives numbers at both ends, beside them, about 0 and between.
func (g *formSource) atEnds(most int, count int) []int {
	some := []int{most, -most, most - 1, 1 - most, 0, 1, -1, 2, -2, 3, -3, most / 2}
	list := make([]int, 0, count)
	for range count {
		if at := int(g.next() % 24); at < len(some) {
			list = append(list, some[at])
		} else {
			list = append(list, g.ofAnySize(most))
		}
	}
	return list
}

// manySignals gives lists of each length, with numbers up to most in size.
func manySignals(seed uint64, most int, call func(list []int)) {
	g := formSource(seed)
	for _, n := range liftLengths {
		for _, least := range []int{1, 4, 40, 100000, most} {
			call(g.signal(least, n))
		}
		call(g.loud(most, n))
		call(g.atEnds(most, n))
	}
}

// shortSignals gives all lists of up to count numbers from -most to most.
func shortSignals(most int, count int, call func(list []int)) {
	lists := [][]int{{}}
	for len(lists) > 0 {
		list := lists[0]
		lists = lists[1:]
		call(list)
		for x := -most; x <= most && len(list) < count; x++ {
			lists = append(lists, append(slices.Clone(list), x))
		}
	}
}

func holdBoth(t *testing.T, what string, low, high []int, ok bool, wantLow, wantHigh []int) {
	t.Helper()
	if !ok || !slices.Equal(low, wantLow) || !slices.Equal(high, wantHigh) {
		t.Errorf("%s is %v and %v, %v, not %v and %v", what, low, high, ok, wantLow, wantHigh)
	}
}

func noBoth(t *testing.T, what string, low, high []int, ok bool) {
	t.Helper()
	if ok || len(low) != 0 || len(high) != 0 {
		t.Errorf("%s is not refused: %v and %v, %v", what, low, high, ok)
	}
}
