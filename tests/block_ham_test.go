package tests

import (
	"math"
	"math/bits"
	"testing"

	"loop.example/g00043/impl"
)

func unHamHolds(t *testing.T, w, n, far int) {
	t.Helper()
	if gotN, gotFar := impl.UnHam(w); gotN != n || gotFar != far {
		t.Errorf("UnHam of %d is %d %d, not %d %d", w, gotN, gotFar, n, far)
	}
}

func TestBlockHamByHand(t *testing.T) {
	for n, want := range []int{0b00000000, 0b00010111, 0b00101011, 0b00111100, 0b01001101, 0b01011010, 0b01100110, 0b01110001, 0b10001110, 0b10011001, 0b10100101, 0b10110010, 0b11000011, 0b11010100, 0b11101000, 0b11111111} {
		holdInt(t, "Ham", impl.Ham(n), want, n)
		holdInt(t, "the oracle", hamSlow(n), want, n)
		unHamHolds(t, want, n, 0)
	}
}

func TestBlockHamBitByBit(t *testing.T) {
	for n := range 16 {
		d := func(k int) int { return n >> k & 1 }
		digits := []int{d(3), d(2), d(1), d(0), d(3) ^ d(2) ^ d(1), d(3) ^ d(2) ^ d(0), d(3) ^ d(1) ^ d(0)}
		last := 0
		for _, digit := range digits {
			last ^= digit
		}
		for at, digit := range append(digits, last) {
			holdInt(t, "a bit of Ham", impl.Ham(n)>>(7-at)&1, digit, n, at)
		}
		if w := impl.Ham(n); w < 0 || w > 255 {
			t.Errorf("Ham of %d is %d", n, w)
		}
	}
}

func TestBlockHamWordsAreFourBitsApart(t *testing.T) {
	for a := range 16 {
		for b := range 16 {
			if far := bits.OnesCount(uint(impl.Ham(a) ^ impl.Ham(b))); a != b && far < 4 {
				t.Errorf("Ham of %d and of %d differ in %d bits", a, b, far)
			}
		}
	}
}

func TestBlockUnHamOfAllBytes(t *testing.T) {
	counts := [3]int{}
	for w := range 256 {
		n, far := unHamSlow(w)
		unHamHolds(t, w, n, far)
		counts[far]++
	}
	if counts != [3]int{16, 128, 112} {
		t.Errorf("the oracle finds %v", counts)
	}
}

// One bit turned is mended, two are told, whichever they are.
func TestBlockUnHamMendsOneAndTellsTwo(t *testing.T) {
	for n := range 16 {
		w := impl.Ham(n)
		unHamHolds(t, w, n, 0)
		for a := range 8 {
			unHamHolds(t, w^1<<a, n, 1)
			for b := range a {
				unHamHolds(t, w^1<<a^1<<b, -1, 2)
			}
		}
	}
}

func TestBlockHamOfWrongNumbers(t *testing.T) {
	for _, n := range []int{-1, 16, -2, -15, -16, 17, 31, 32, 255, 256, 1 << 32, 1<<32 + 1, 1 - 1<<32, math.MaxInt, math.MinInt, math.MinInt + 1, math.MinInt + 15} {
		holdInt(t, "Ham", impl.Ham(n), 0, n)
	}
	for _, w := range []int{-1, 256, -2, -23, -256, 257, 256 + 23, 511, 512, 65535, 1 << 32, 1<<32 + 23, 23 - 1<<32, -1 << 8, math.MaxInt, math.MinInt, math.MinInt + 1, math.MinInt + 23} {
		unHamHolds(t, w, -1, 2)
	}
}
