package tests

import (
	"math"
	"math/bits"
	"slices"
	"testing"

	"loop.example/g00043/impl"
)

func TestSymbolBitsOk(t *testing.T) {
	for _, list := range [][]int{nil, {}, {0}, {1}, {0, 0}, {1, 1}, {0, 1}, {1, 0}, {1, 0, 1, 1, 0}, make([]int, maxBits-1), make([]int, maxBits), slices.Repeat([]int{1}, maxBits), slices.Repeat([]int{0, 1}, maxBits/2)} {
		if !impl.BitsOk(list) {
			t.Errorf("%v are no bits", list)
		}
	}
	for _, list := range noBitLists() {
		if impl.BitsOk(list) {
			t.Errorf("%d numbers, at the end %d, are bits", len(list), list[len(list)-1])
		}
	}
	shortSignals(2, 4, func(list []int) {
		if want := len(list) == 0 || slices.Min(list) >= 0 && slices.Max(list) <= 1; impl.BitsOk(list) != want {
			t.Errorf("BitsOk of %v is %v", list, !want)
		}
	})
	manyBitLists(1301, func(list []int) {
		if !impl.BitsOk(list) {
			t.Errorf("%v are no bits", list)
		}
	})
}

func TestSymbolGrayByHand(t *testing.T) {
	for n, want := range []int{0, 1, 3, 2, 6, 7, 5, 4, 12, 13, 15, 14, 10, 11, 9, 8, 24} {
		holdInt(t, "Gray", impl.Gray(n), want, n)
		holdInt(t, "UnGray", impl.UnGray(want), n, want)
		holdInt(t, "the oracle", graySlow(n), want, n)
		holdInt(t, "the oracle back", unGraySlow(want), n, want)
	}
	// 1 and 61 noughts, as Gray, are 62 ones: a number beyond MaxBig, but the one whose Gray that is.
	for _, c := range [][2]int{{1 << 61, 1<<62 - 1}, {1 << 60, 1<<61 - 1}, {1<<61 + 1<<60, 1 << 61}, {1 << 32, 1<<33 - 1}} {
		holdInt(t, "UnGray", impl.UnGray(c[0]), c[1], c[0])
	}
	for _, c := range [][2]int{{1 << 61, 1<<61 + 1<<60}, {1<<61 - 1, 1 << 60}, {1<<32 - 1, 1 << 31}, {0x2AAAAAAAAAAAAAAA, 0x3FFFFFFFFFFFFFFF}} {
		holdInt(t, "Gray", impl.Gray(c[0]), c[1], c[0])
	}
}

func grayHolds(t *testing.T, n int) {
	t.Helper()
	gray, number := impl.Gray(n), impl.UnGray(n)
	holdInt(t, "Gray", gray, graySlow(n), n)
	holdInt(t, "UnGray", number, unGraySlow(n), n)
	if gray <= maxBig {
		holdInt(t, "UnGray of Gray", impl.UnGray(gray), n, n)
	} else {
		holdInt(t, "UnGray of a Gray beyond MaxBig", impl.UnGray(gray), 0, n)
	}
	if number <= maxBig {
		holdInt(t, "Gray of UnGray", impl.Gray(number), n, n)
	} else {
		holdInt(t, "Gray of an UnGray beyond MaxBig", impl.Gray(number), 0, n)
		holdInt(t, "the rule of Gray, beyond MaxBig,", number^number>>1, n, n)
	}
	if n < maxBig && bits.OnesCount(uint(gray^impl.Gray(n+1))) != 1 {
		t.Errorf("Gray of %d and of the next one do not differ in one bit", n)
	}
	if n > 0 && bits.OnesCount(uint(gray^impl.Gray(n-1))) != 1 {
		t.Errorf("Gray of %d and of the one ahead do not differ in one bit", n)
	}
}

func TestSymbolGrayOfManyNumbers(t *testing.T) {
	for n := range 5000 {
		grayHolds(t, n)
	}
	for _, n := range []int{maxBig, maxBig - 1, maxBig - 2, maxBig / 2, 0x2AAAAAAAAAAAAAAA, 0x1555555555555555, 999999999999999999} {
		grayHolds(t, n)
	}
	for k := range 62 {
		for _, n := range []int{1<<k - 1, 1 << k, 1<<k + 1, 3 << k >> 1} {
			grayHolds(t, min(n, maxBig))
		}
	}
	g := formSource(1302)
	for range 20000 {
		n := g.ofAnySize(maxBig)
		grayHolds(t, max(n, -n))
	}
}

// Among so many levels Gray is the mirrored order, and each code comes once.
func TestSymbolGrayIsMirrored(t *testing.T) {
	for half := 1; half <= 12; half++ {
		for u, text := range mirroredTexts(half) {
			holdInt(t, "Gray", impl.Gray(u), numberOfText(text), u)
			holdInt(t, "UnGray", impl.UnGray(numberOfText(text)), u, text)
		}
	}
}

func TestSymbolGrayBeyond(t *testing.T) {
	for _, n := range []int{-1, maxBig + 1, -2, -3, maxBig + 2, -maxBig, -maxBig - 1, 1<<62 - 1, 1 << 62, 1<<62 + 1, -1 << 32, 1 - 1<<32, math.MaxInt - 1, math.MaxInt, math.MinInt, math.MinInt + 1} {
		holdInt(t, "Gray", impl.Gray(n), 0, n)
		holdInt(t, "UnGray", impl.UnGray(n), 0, n)
	}
}
