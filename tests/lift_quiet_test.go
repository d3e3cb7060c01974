package tests

import (
	"math"
	"math/big"
	"slices"
	"testing"

	"loop.example/g00043/impl"
)

func quietSlow(list []int, least int) ([]int, int) {
	quiet, count := []int{}, 0
	for _, x := range list {
		if size := new(big.Int).Abs(bigOf(x)); size.Cmp(bigOf(least)) >= 0 {
			quiet = append(quiet, x)
			continue
		}
		quiet = append(quiet, 0)
		if x != 0 {
			count++
		}
	}
	return quiet, count
}

func holdQuiet(t *testing.T, list []int, least int, want []int, count int) {
	t.Helper()
	got, n := impl.Quiet(list, least)
	if n != count || !slices.Equal(got, want) {
		t.Errorf("Quiet of %v below %d is %v, %d, not %v, %d", list, least, got, n, want, count)
	}
}

func TestQuietByHand(t *testing.T) {
	list := []int{1, -3, 0, 5, -1, 3, 2, -2}
	holdQuiet(t, list, 3, []int{0, -3, 0, 5, 0, 3, 0, 0}, 4)
	holdQuiet(t, list, 4, []int{0, 0, 0, 5, 0, 0, 0, 0}, 6)
	holdQuiet(t, list, 2, []int{0, -3, 0, 5, 0, 3, 2, -2}, 2)
	holdQuiet(t, list, 5, []int{0, 0, 0, 5, 0, 0, 0, 0}, 6)
	holdQuiet(t, list, 6, make([]int, 8), 7)
	holdQuiet(t, list, math.MaxInt, make([]int, 8), 7)
	for _, least := range []int{1, 0, -1, -2, -3, -6, math.MinInt, math.MinInt + 1} {
		holdQuiet(t, list, least, list, 0)
	}
	for _, least := range []int{0, 1, 2, -1, math.MaxInt, math.MinInt} {
		holdQuiet(t, nil, least, nil, 0)
		holdQuiet(t, []int{}, least, nil, 0)
		holdQuiet(t, []int{0, 0}, least, []int{0, 0}, 0)
	}
}

// The least int is greater in size than each other int, and has no size among them.
func TestQuietOfTheLeastInt(t *testing.T) {
	const least, most = math.MinInt, math.MaxInt
	list := []int{least, least + 1, most, most - 1, 1, 0}
	holdQuiet(t, list, most, []int{least, least + 1, most, 0, 0, 0}, 2)
	holdQuiet(t, list, most-1, []int{least, least + 1, most, most - 1, 0, 0}, 1)
	holdQuiet(t, list, 2, []int{least, least + 1, most, most - 1, 0, 0}, 1)
	for _, below := range []int{1, 0, -1, least, least + 1, -most} {
		holdQuiet(t, list, below, list, 0)
	}
}

// Quiet asks for no signal: any int counts, and any number of them.
func TestQuietOfAnyNumbers(t *testing.T) {
	g := formSource(941)
	for _, n := range []int{0, 1, 2, 10, maxSignal, maxSignal + 1, 5000} {
		for _, most := range []int{1, 5, maxSample, maxLifted, math.MaxInt} {
			list := g.signal(most, n)
			for _, least := range []int{0, 1, 2, 3, most / 2, most, -most, g.ofAnySize(most), maxSample, math.MaxInt, math.MinInt} {
				want, count := quietSlow(list, least)
				holdQuiet(t, list, least, want, count)
			}
		}
	}
}
