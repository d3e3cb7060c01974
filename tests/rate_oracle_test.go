package tests

import (
	"math"
	"math/big"
	"slices"
	"testing"

	"loop.example/g00043/impl"
)

// The oracle of the rates: each number told is worked out by its own place, in numbers without an end; none is written between others or into a ring.

const maxRate = impl.MaxRate

var noRatesOfWhole = []int{0, maxRate + 1, -1, maxRate + 2, -maxRate, 32, 1 << 32, 1<<32 + 1, -1 << 32, math.MaxInt, math.MinInt, math.MinInt + 1}

// noParts are no numbers in 1 .. MaxTap.
var noParts = append(beyond(maxTap), 0, -1, -2, -maxTap)

func upSlow(list []int, by int) []int {
	dense := []int{}
	for at := range len(list) * by {
		if at%by == 0 {
			dense = append(dense, list[at/by])
		} else {
			dense = append(dense, 0)
		}
	}
	return dense
}

func downSlow(list []int, by, phase int) []int {
	left := []int{}
	for at, x := range list {
		if at%by == phase {
			left = append(left, x)
		}
	}
	return left
}

// rationalSlow asks for each number told which taps meet a sample, and no nought behind one.
func rationalSlow(list, taps []int, up, down int) []int {
	told := []int{}
	for place := 0; place < len(list)*up; place += down {
		sum := new(big.Int)
		for back, tap := range taps {
			if back <= place && (place-back)%up == 0 {
				sum.Add(sum, timesBig(tap, bigOf(list[(place-back)/up])))
			}
		}
		told = append(told, int(sum.Int64()))
	}
	return told
}

// partSlow has each sample weigh the less, the further its own place lies from the one that is asked, and nothing from a whole sample on; where no sample is, nothing weighs.
func partSlow(list []int, place, den int) int {
	sum := new(big.Int)
	for at, x := range list {
		if far := max(place-at*den, at*den-place); far < den {
			sum.Add(sum, timesBig(x, bigOf(den-far)))
		}
	}
	return int(nearestOf(sum, bigOf(den), false).Int64())
}

func driftSlow(list []int, num, den, start int) []int {
	told := []int{}
	for count := 0; ; count++ {
		place := start + count*num
		if place > den*len(list)-den {
			return told
		}
		told = append(told, partSlow(list, place, den))
	}
}

func delaySlow(list []int, num, den int) []int {
	told := []int{}
	for at := range list {
		told = append(told, partSlow(list, at*den-num, den))
	}
	return told
}

// oldestFirst is what a ring holds, in the order in which it was written.
func oldestFirst(r impl.Ring) []int { return slices.Concat(r.Cells[r.At:], r.Cells[:r.At]) }

// pushSlow writes into no cell: what was written lies in one row, of which the beginning is told and the end stays.
func pushSlow(r impl.Ring, list []int) (impl.Ring, []int) {
	n := len(r.Cells)
	row := append(oldestFirst(r), list...)
	behind := impl.Ring{Cells: make([]int, n), At: (r.At + len(list)) % n}
	for k, x := range row[len(list):] {
		behind.Cells[(behind.At+k)%n] = x
	}
	return behind, row[:len(list)]
}

func holdRing(t *testing.T, what string, r impl.Ring, told []int, ok bool, wantRing impl.Ring, want []int) {
	t.Helper()
	if !ok || r.At != wantRing.At || !slices.Equal(r.Cells, wantRing.Cells) || !slices.Equal(told, want) {
		t.Errorf("%s is %v and %v, %v, not %v and %v", what, r, told, ok, wantRing, want)
	}
}

func noRing(t *testing.T, what string, r impl.Ring, told []int, ok bool) {
	t.Helper()
	if ok || r.At != 0 || len(r.Cells) != 0 || len(told) != 0 {
		t.Errorf("%s is not refused: %v and %v, %v", what, r, told, ok)
	}
}

func holdTap(t *testing.T, what string, x int, ok bool, want int) {
	t.Helper()
	if !ok || x != want {
		t.Errorf("%s is %d %v, not %d", what, x, ok, want)
	}
}

func noTap(t *testing.T, what string, x int, ok bool) {
	t.Helper()
	if ok || x != 0 {
		t.Errorf("%s is not refused: %d %v", what, x, ok)
	}
}

// noRings have no cells or too many, a cell that is no sample, or no such place.
func noRings() []impl.Ring {
	rings := []impl.Ring{{}, {Cells: []int{}}, {At: 1}, {At: -1}, {Cells: []int{}, At: -1}}
	for _, cells := range noSignals() {
		for _, at := range []int{0, 1, len(cells) - 1, len(cells), -1} {
			rings = append(rings, impl.Ring{Cells: cells, At: at})
		}
	}
	for _, n := range []int{1, 2, 3, maxSignal} {
		for _, at := range []int{-1, n, n + 1, -n, 2 * n, -2 * n, 1 << 32, 1<<32 + 1, -1 << 32, math.MaxInt, math.MinInt, math.MinInt + 1} {
			rings = append(rings, impl.Ring{Cells: make([]int, n), At: at}, impl.Ring{Cells: slices.Repeat([]int{5}, n), At: at})
		}
	}
	return rings
}
