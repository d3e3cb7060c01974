package tests

import (
	"math"
	"math/big"
	"slices"
	"sync"
	"testing"

	"loop.example/g00043/impl"
)

// The oracle of detection: coins are laid one by one and the lists of each sum counted without an end; a match is its sum; peaks, sides and counts are searched in the list as a whole, not told sample by sample.

const (
	maxCoins  = impl.MaxCoins
	maxChance = 1000
	maxCuts   = 100
)

var (
	noCoins   = []int{-1, maxCoins + 1, 61, 62, -2, maxCoins + 2, -maxCoins, 63, 64, 65, 1 << 32, 1<<32 + 1, 1<<32 + 4, -1 << 32, math.MaxInt, math.MinInt, math.MinInt + 1}
	noChances = []int{0, maxChance + 1, -1, -maxChance, maxChance + 2, 1 << 32, 1<<32 + 1, -1 << 32, 1 << 60, math.MaxInt, math.MinInt, math.MinInt + 1}
	farOff    = []int{1 << 31, 1 << 32, 1<<32 + 1, 1 << 62, math.MaxInt - 1, math.MaxInt, -1 << 31, -1 << 32, -1<<32 - 1, -1 << 62, math.MinInt + 1, math.MinInt}
)

// waysOfAll goes through each list of n numbers: those with a bit set are 1, the others -1.
func waysOfAll(n, at int) int {
	count := 0
	for list := range 1 << n {
		sum := 0
		for k := range n {
			if list>>k&1 == 1 {
				sum++
			} else {
				sum--
			}
		}
		if sum >= at {
			count++
		}
	}
	return count
}

// coinTable counts for each n the lists of n numbers of each sum, those of sum k at the place n + k.
var coinTable = sync.OnceValue(func() [][]*big.Int {
	rows := [][]*big.Int{{big.NewInt(1)}}
	for n := range maxCoins {
		next := make([]*big.Int, 2*n+3)
		for at := range next {
			next[at] = new(big.Int)
		}
		for at, count := range rows[n] {
			next[at].Add(next[at], count)
			next[at+2].Add(next[at+2], count)
		}
		rows = append(rows, next)
	}
	return rows
})

func waysBig(n, at int) *big.Int {
	ways := new(big.Int)
	for place, count := range coinTable()[n] {
		if place-n >= at {
			ways.Add(ways, count)
		}
	}
	return ways
}

// isRare says whether so many of the 2^n lists are at most num of den.
func isRare(ways *big.Int, n, num, den int) bool {
	return timesBig(den, ways).Cmp(timesBig(num, new(big.Int).Lsh(bigOf(1), uint(n)))) <= 0
}

// thresholdSlow comes from above, and leaves off where the next one less would be too many.
func thresholdSlow(n, num, den int) int {
	sums := coinTable()[n]
	ways := new(big.Int)
	t := n + 1
	for t > -n {
		ways.Add(ways, sums[t-1+n])
		if !isRare(ways, n, num, den) {
			break
		}
		t--
	}
	return t
}

func matchSlow(list, pattern []int) []int {
	told := []int{}
	for place := range list {
		if place+len(pattern) <= len(list) {
			told = append(told, int(sumOfProducts(pattern, list[place:place+len(pattern)]).Int64()))
		}
	}
	return told
}

func bestSlow(list, pattern []int) (int, int) {
	told := matchSlow(list, pattern)
	most := slices.Max(told)
	return slices.Index(told, most), most
}

// peaksSlow cuts the list into its peaks, and asks each of them as a whole.
func peaksSlow(list []int, high, low int) []impl.Peak {
	begin := slices.IndexFunc(list, func(x int) bool { return x >= high })
	if begin < 0 {
		return nil
	}
	end := slices.IndexFunc(list[begin:], func(x int) bool { return x < low })
	if end < 0 {
		end = len(list) - begin
	}
	most := slices.Max(list[begin : begin+end])
	peaks := []impl.Peak{{At: begin + slices.Index(list[begin:begin+end], most), Size: most}}
	for _, p := range peaksSlow(list[begin+end:], high, low) {
		peaks = append(peaks, impl.Peak{At: begin + end + p.At, Size: p.Size})
	}
	return peaks
}

// crossingsSlow leaves out what is within the band, and asks of each sample that is left whether the one ahead has another sign.
func crossingsSlow(list []int, band int) []int {
	left := []int{}
	for at, x := range list {
		if max(x, -x) > band {
			left = append(left, at)
		}
	}
	changes := []int{}
	for k := 1; k < len(left); k++ {
		if list[left[k]] > 0 != (list[left[k-1]] > 0) {
			changes = append(changes, left[k])
		}
	}
	return changes
}

// countsSlow asks of each count by itself which samples lie between its two cuts.
func countsSlow(list, cuts []int) []int {
	counts := make([]int, len(cuts)+1)
	for k := range counts {
		for _, x := range list {
			if (k == 0 || x >= cuts[k-1]) && (k == len(cuts) || x < cuts[k]) {
				counts[k]++
			}
		}
	}
	return counts
}

func holdPeaks(t *testing.T, what string, got []impl.Peak, ok bool, want []impl.Peak) {
	t.Helper()
	if !ok || !slices.Equal(got, want) {
		t.Errorf("%s is %v %v, not %v", what, got, ok, want)
	}
}

func noPeaks(t *testing.T, what string, got []impl.Peak, ok bool) {
	t.Helper()
	if ok || len(got) != 0 {
		t.Errorf("%s is not refused: %v %v", what, got, ok)
	}
}

func holdBest(t *testing.T, what string, at, size int, wantAt, wantSize int) {
	t.Helper()
	if at != wantAt || size != wantSize {
		t.Errorf("%s is %d and %d, not %d and %d", what, at, size, wantAt, wantSize)
	}
}

// cuts gives ascending numbers, so many of them, from -most on.
func (g *formSource) cuts(most int, count int) []int {
	list := []int{}
	for _, x := range g.signal(most/(count+1), count) {
		at := 2 * most / (count + 1) * (len(list) + 1)
		list = append(list, at-most+x/2)
	}
	return list
}
