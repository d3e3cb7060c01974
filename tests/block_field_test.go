package tests

import (
	"math"
	"testing"

	"loop.example/g00043/impl"
)

var noFieldNumbers = []int{-1, 256, -2, -128, -255, -256, 257, 258, 511, 512, 65535, 1 << 32, 1<<32 + 1, 1<<32 + 2, 1 - 1<<32, math.MaxInt, math.MaxInt - 1, math.MinInt, math.MinInt + 1, math.MinInt + 2}

func TestBlockProductsByHand(t *testing.T) {
	for _, c := range [][3]int{{0, 0, 0}, {0, 7, 0}, {1, 1, 1}, {1, 255, 255}, {2, 2, 4}, {2, 64, 128}, {2, 128, 29}, {2, 255, 227}, {3, 3, 5}, {3, 7, 9}, {16, 16, 29}, {2, 142, 1}, {128, 128, 19}, {255, 255, 226}} {
		holdInt(t, "GfMul", impl.GfMul(c[0], c[1]), c[2], c)
		holdInt(t, "GfMul", impl.GfMul(c[1], c[0]), c[2], c)
		holdInt(t, "the oracle", productSlow(c[0], c[1]), c[2], c)
	}
}

func TestBlockProductsOfAllPairs(t *testing.T) {
	for a := range 256 {
		for b := range 256 {
			holdInt(t, "GfMul", impl.GfMul(a, b), productSlow(a, b), a, b)
			if impl.GfMul(a, b) != impl.GfMul(b, a) {
				t.Errorf("%d and %d may not be exchanged", a, b)
			}
			if (impl.GfMul(a, b) == 0) != (a == 0 || b == 0) {
				t.Errorf("%d times %d is %d", a, b, impl.GfMul(a, b))
			}
		}
		holdInt(t, "1 times", impl.GfMul(1, a), a, a)
	}
}

// The field is one: products may be put together in any order, and sums handed out.
func TestBlockProductsOfAllTriples(t *testing.T) {
	for a := range 256 {
		for b := range 256 {
			ab := impl.GfMul(a, b)
			for c := range 256 {
				if impl.GfMul(ab, c) != impl.GfMul(a, impl.GfMul(b, c)) {
					t.Fatalf("%d, %d and %d may not be put together", a, b, c)
				}
				if impl.GfMul(a, b^c) != ab^impl.GfMul(a, c) {
					t.Fatalf("%d is not handed out to %d and %d", a, b, c)
				}
			}
		}
	}
}

func TestBlockPowersOfTwoAreAllNumbers(t *testing.T) {
	seen := map[int]int{}
	power := 1
	for at := range 255 {
		seen[power] = at
		power = impl.GfMul(power, 2)
	}
	if len(seen) != 255 || power != 1 {
		t.Errorf("2 has %d powers, and comes back to %d", len(seen), power)
	}
}

func TestBlockInversesOfAllNumbers(t *testing.T) {
	holdInt(t, "GfInv", impl.GfInv(0), 0, 0)
	holdInt(t, "GfInv", impl.GfInv(1), 1, 1)
	holdInt(t, "GfInv", impl.GfInv(2), 142, 2)
	for a := range 256 {
		want := 0
		for b := range 256 {
			if productSlow(a, b) == 1 {
				want = b
			}
		}
		got := impl.GfInv(a)
		holdInt(t, "GfInv", got, want, a)
		holdInt(t, "GfInv of GfInv", impl.GfInv(got), a, a)
		if a != 0 {
			holdInt(t, "a number times its inverse", impl.GfMul(a, got), 1, a)
		}
	}
}

// What GfInv looks up is what products alone come to: the power 254, behind which 1 comes.
func TestBlockInversesArePowers(t *testing.T) {
	for a := range 256 {
		power := 1
		for range 254 {
			power = impl.GfMul(power, a)
		}
		holdInt(t, "GfInv", impl.GfInv(a), power, a)
	}
}

func TestBlockFieldOfWrongNumbers(t *testing.T) {
	for _, bad := range noFieldNumbers {
		for good := range 256 {
			holdInt(t, "GfMul", impl.GfMul(bad, good), 0, bad, good)
			holdInt(t, "GfMul", impl.GfMul(good, bad), 0, good, bad)
		}
		for _, other := range noFieldNumbers {
			holdInt(t, "GfMul", impl.GfMul(bad, other), 0, bad, other)
		}
		holdInt(t, "GfInv", impl.GfInv(bad), 0, bad)
	}
}
