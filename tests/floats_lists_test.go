package tests

import (
	"math"
	"slices"
	"testing"

	"loop.example/g00043/impl"
)

// Promise 5, its second half: what is sorted is in order; what is rounded to whole numbers is near.

func TestFloatLeastAndGreatestOfMany(t *testing.T) {
	manyLists(321, 6, func(kind string, list []float64) {
		hold(t, "Least, "+kind, impl.Least(list), extremeOfBits(allBits(list), -1), list...)
		hold(t, "Greatest, "+kind, impl.Greatest(list), extremeOfBits(allBits(list), 1), list...)
	})
}

func TestFloatLeastAndGreatestOfSome(t *testing.T) {
	inf, nan, minus := math.Inf(1), math.NaN(), math.Copysign(0, -1)
	for _, c := range []struct {
		list            []float64
		least, greatest float64
	}{
		{nil, 0, 0},
		{[]float64{}, 0, 0},
		{[]float64{-3}, -3, -3},
		{[]float64{minus}, minus, minus},
		{[]float64{0, minus}, minus, 0},
		{[]float64{minus, 0}, minus, 0},
		{[]float64{minus, 0, minus, 0}, minus, 0},
		{[]float64{0, minus, 0, minus}, minus, 0},
		{[]float64{minus, minus}, minus, minus},
		{[]float64{0, 0}, 0, 0},
		{[]float64{2, 1, 3}, 1, 3},
		{[]float64{1, 2, 3}, 1, 3},
		{[]float64{3, 2, 1}, 1, 3},
		{[]float64{-1, -2, -3}, -3, -1},
		{[]float64{inf, 1, -inf}, -inf, inf},
		{[]float64{inf, inf}, inf, inf},
		{[]float64{-inf, -math.MaxFloat64}, -inf, -math.MaxFloat64},
		{[]float64{0x1p-1074, 0}, 0, 0x1p-1074},
		{[]float64{-0x1p-1074, minus}, -0x1p-1074, minus},
		{[]float64{nan}, nan, nan},
		{[]float64{nan, 1, 2}, nan, nan},
		{[]float64{1, nan, 2}, nan, nan},
		{[]float64{1, 2, nan}, nan, nan},
		{[]float64{nan, inf}, nan, nan},
		{[]float64{-inf, nan}, nan, nan},
	} {
		hold(t, "Least", impl.Least(c.list), bitsOf(c.least), c.list...)
		hold(t, "Greatest", impl.Greatest(c.list), bitsOf(c.greatest), c.list...)
	}
}

// A NaN counts wherever it stands, of whichever kind it is.
func TestFloatLeastAndGreatestWithANan(t *testing.T) {
	for _, bits := range []uint64{double.plain(), double.infinity() + 1, double.all(), double.inf(true) + 1, double.plain() | double.sign()} {
		for at := range 9 {
			list := []float64{3, -1, math.Inf(1), 0, math.Copysign(0, -1), math.Inf(-1), 2, -5, 7}
			list[at] = math.Float64frombits(bits)
			hold(t, "Least", impl.Least(list), double.plain(), list...)
			hold(t, "Greatest", impl.Greatest(list), double.plain(), list...)
		}
	}
}

// sortedHolds asks for the list in another order (NaNs as the plain one, bit by bit) that never falls.
func sortedHolds(t *testing.T, list []float64) {
	t.Helper()
	ahead := rawBits(list)
	sorted := rawBits(impl.SortFloats(list))
	if !slices.Equal(rawBits(list), ahead) {
		t.Errorf("SortFloats has changed its argument %x to %x", ahead, rawBits(list))
	}
	for i := 1; i < len(sorted); i++ {
		if impl.Order(impl.Double, sorted[i-1], sorted[i]) > 0 {
			t.Errorf("%x ahead of %x", sorted[i-1], sorted[i])
		}
	}
	counts := map[uint64]int{}
	for _, x := range allBits(list) {
		counts[x]++
	}
	for _, x := range sorted {
		counts[x]--
	}
	for x, n := range counts {
		if n != 0 {
			t.Errorf("of %x there are %d too few in %x", x, n, sorted)
		}
	}
}

func TestFloatSortOfMany(t *testing.T) {
	manyLists(322, 6, func(kind string, list []float64) { sortedHolds(t, list) })
}

func TestFloatSortOfSome(t *testing.T) {
	inf, minus := math.Inf(1), math.Copysign(0, -1)
	nans := []float64{}
	for _, bits := range []uint64{double.all(), double.infinity() + 1, double.plain(), double.inf(true) + 1, double.plain() | double.sign()} {
		nans = append(nans, math.Float64frombits(bits))
	}
	list := []float64{nans[0], 1, nans[1], 0, inf, minus, nans[2], -1, -inf, 0, nans[3], 1, minus, 0x1p-1074, -0x1p-1074, nans[4], -math.MaxFloat64, math.MaxFloat64}
	plain := math.Float64frombits(double.plain())
	want := []float64{-inf, -math.MaxFloat64, -1, -0x1p-1074, minus, minus, 0, 0, 0x1p-1074, 1, 1, math.MaxFloat64, inf, plain, plain, plain, plain, plain}
	if got := impl.SortFloats(list); !slices.Equal(rawBits(got), rawBits(want)) {
		t.Errorf("%x, not %x", rawBits(got), rawBits(want))
	}
	sortedHolds(t, list)
	for _, short := range [][]float64{nil, {}, {3}, {nans[0]}, {2, 1}, {1, 2}, {0, minus}, {minus, 0}} {
		sortedHolds(t, short)
		if got := impl.SortFloats(short); len(got) != len(short) {
			t.Errorf("of %d there are %d", len(short), len(got))
		}
	}
}

func TestFloatSortIsNewMemory(t *testing.T) {
	list := []float64{1, 2, 3}
	sorted := impl.SortFloats(list)
	sorted[0] = 9
	if list[0] != 1 {
		t.Error("what is sorted shares memory with the list")
	}
}

func TestFloatListsAtMaxFloats(t *testing.T) {
	falling := []float64{}
	for i := range impl.MaxFloats + 1 {
		falling = append(falling, float64(2*impl.MaxFloats-i))
	}
	most := falling[:impl.MaxFloats]
	hold(t, "Least at MaxFloats", impl.Least(most), bitsOf(impl.MaxFloats+1))
	hold(t, "Greatest at MaxFloats", impl.Greatest(most), bitsOf(2*impl.MaxFloats))
	hold(t, "Least past MaxFloats", impl.Least(falling), 0)
	hold(t, "Greatest past MaxFloats", impl.Greatest(falling), 0)
	if got := impl.SortFloats(most); len(got) != impl.MaxFloats || got[0] != impl.MaxFloats+1 || got[impl.MaxFloats-1] != 2*impl.MaxFloats {
		t.Errorf("SortFloats at MaxFloats: %v", got)
	}
	if got := impl.SortFloats(falling); len(got) != 0 {
		t.Errorf("SortFloats past MaxFloats: %v", got)
	}
}
