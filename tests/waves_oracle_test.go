package tests

import (
	"math"
	"math/big"
	"sync"
	"testing"

	"loop.example/g00043/impl"
)

// The oracle of the waves: the table by its rule, and steps, products and sums as numbers without an end, so that no step has one too few below it.

const maxSample, maxSignal, one = impl.MaxSample, impl.MaxSignal, impl.One

var windowKinds = []int{impl.WindowFlat, impl.WindowHann, impl.WindowTriangle, impl.WindowHamming}

var noWindowKinds = []int{0, 5, -1, 6, -impl.WindowHann, 1 << 32, 1<<32 + 1, math.MaxInt, math.MinInt}

// noSteps are beyond MaxSample; of some the rest by 256 is that of 0.
var noSteps = []int{maxSample + 1, -maxSample - 1, maxSample + 256, -maxSample - 256, 1 << 32, -1 << 32, math.MaxInt, math.MinInt, math.MinInt + 1}

var cosineTable = sync.OnceValue(func() []*big.Int {
	table := []*big.Int{bigOf(one), bigOf(1073418433)}
	for k := 2; k < 64; k++ {
		product := new(big.Int).Mul(bigOf(2), table[1])
		next := nearestOf(product.Mul(product, table[k-1]), bigOf(one), false)
		table = append(table, new(big.Int).Sub(next, table[k-2]))
	}
	return append(table, bigOf(0))
})

func cosineBig(step *big.Int) *big.Int {
	s := new(big.Int).Mod(step, bigOf(256)).Int64()
	table := cosineTable()
	switch {
	case s <= 64:
		return table[s]
	case s <= 128:
		return new(big.Int).Neg(table[128-s])
	case s <= 192:
		return new(big.Int).Neg(table[s-128])
	}
	return table[256-s]
}

func sineBig(step *big.Int) *big.Int { return cosineBig(new(big.Int).Sub(step, bigOf(64))) }

func timesBig(a int, b *big.Int) *big.Int { return new(big.Int).Mul(bigOf(a), b) }

func byOneBig(x *big.Int) int { return int(nearestOf(x, bigOf(one), false).Int64()) }

func toneBig(step, phase, size, n int) []int {
	tone := []int{}
	for i := range n {
		at := timesBig(i, bigOf(step))
		tone = append(tone, byOneBig(timesBig(size, cosineBig(at.Add(at, bigOf(phase))))))
	}
	return tone
}

func binBig(list []int, step int) (int, int) {
	cosines, sines := new(big.Int), new(big.Int)
	for i, x := range list {
		at := timesBig(i, bigOf(step))
		cosines.Add(cosines, timesBig(x, cosineBig(at)))
		sines.Add(sines, timesBig(x, sineBig(at)))
	}
	return byOneBig(cosines), byOneBig(sines)
}

func turnBig(x, y, step int) (int, int) {
	cosine, sine := cosineBig(bigOf(step)), sineBig(bigOf(step))
	first := new(big.Int).Sub(timesBig(x, cosine), timesBig(y, sine))
	second := new(big.Int).Add(timesBig(x, sine), timesBig(y, cosine))
	return byOneBig(first), byOneBig(second)
}

// windowBig goes by the words of each kind, place by place.
func windowBig(kind, n int) []int {
	window := []int{}
	for i := range n {
		cosine := cosineBig(nearestOf(bigOf(256*i), bigOf(n), false))
		number := bigOf(one)
		switch kind {
		case impl.WindowHann:
			number = lowerOf(number.Sub(number, cosine), bigOf(2))
		case impl.WindowTriangle:
			d := min(2*i+2, 2*n-2*i)
			if d > n+1 {
				d = n + 1
			}
			number = nearestOf(timesBig(d, number), bigOf(n+1), false)
		case impl.WindowHamming:
			number = nearestOf(new(big.Int).Sub(timesBig(54, number), timesBig(46, cosine)), bigOf(100), false)
		}
		window = append(window, int(number.Int64()))
	}
	return window
}

func taperBig(kind int, list []int) []int {
	tapered := []int{}
	for i, number := range windowBig(kind, len(list)) {
		tapered = append(tapered, byOneBig(timesBig(list[i], bigOf(number))))
	}
	return tapered
}

// loudestBig takes the first step than which no other is louder.
func loudestBig(list []int) int {
	squares := []int{}
	for step := range 129 {
		x, y := binBig(list, step)
		squares = append(squares, x*x+y*y)
	}
	for step, square := range squares {
		louder := false
		for _, other := range squares {
			louder = louder || other > square
		}
		if !louder {
			return step
		}
	}
	return -1
}

func binHolds(t *testing.T, list []int, step int) {
	t.Helper()
	x, y, ok := impl.Bin(list, step)
	if wantX, wantY := binBig(list, step); !ok || x != wantX || y != wantY {
		t.Errorf("Bin of %d samples, %v.., at %d is %d %d %v, not %d %d", len(list), list[:min(4, len(list))], step, x, y, ok, wantX, wantY)
	}
}

func noBin(t *testing.T, what string, list []int, step int) {
	t.Helper()
	if x, y, ok := impl.Bin(list, step); x != 0 || y != 0 || ok {
		t.Errorf("Bin of %s at %d is not refused: %d %d %v", what, step, x, y, ok)
	}
}

func holdLoudest(t *testing.T, what string, list []int, want int) {
	t.Helper()
	if step, ok := impl.Loudest(list); !ok || step != want {
		t.Errorf("%s is loudest at %d %v, not at %d", what, step, ok, want)
	}
}

func noLoudest(t *testing.T, what string, list []int) {
	t.Helper()
	if step, ok := impl.Loudest(list); ok || step != 0 {
		t.Errorf("Loudest of %s is not refused: %d %v", what, step, ok)
	}
}

func holdPoint(t *testing.T, x, y, step, wantX, wantY int) {
	t.Helper()
	if gotX, gotY := impl.Turn(x, y, step); gotX != wantX || gotY != wantY {
		t.Errorf("Turn of %d %d by %d is %d %d, not %d %d", x, y, step, gotX, gotY, wantX, wantY)
	}
}
