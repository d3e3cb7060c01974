package tests

import (
	"math"
	"slices"
	"testing"

	"loop.example/g00043/impl"
)

// floatCalls are the functions of one list, with others' second arguments filled in.
var floatCalls = []struct {
	name string
	call func(list []float64) float64
}{
	{"Sum", impl.Sum},
	{"PairSum", impl.PairSum},
	{"CareSum", impl.CareSum},
	{"Dot with itself", func(list []float64) float64 { return impl.Dot(list, list) }},
	{"Horner at 1", func(list []float64) float64 { return impl.Horner(list, 1) }},
	{"Horner at a NaN", func(list []float64) float64 { return impl.Horner(list, math.NaN()) }},
	{"Least", impl.Least},
	{"Greatest", impl.Greatest},
}

// A list that is none is 0 (not -0), whatever is in it.
func TestFloatListsThatAreNone(t *testing.T) {
	for _, count := range []int{impl.MaxFloats + 1, impl.MaxFloats + 2, 2 * impl.MaxFloats, 5000} {
		for _, x := range []float64{1, -1, math.Copysign(0, -1), math.Inf(1), math.Inf(-1), math.NaN(), math.MaxFloat64} {
			list := slices.Repeat([]float64{x}, count)
			for _, c := range floatCalls {
				if got := c.call(list); math.Float64bits(got) != 0 {
					t.Errorf("%s of %d times %v: %v", c.name, count, x, got)
				}
			}
			if got := impl.SortFloats(list); len(got) != 0 {
				t.Errorf("SortFloats of %d times %v: %v", count, x, got)
			}
		}
	}
}

func TestFloatEmptyLists(t *testing.T) {
	for _, list := range [][]float64{nil, {}, slices.Repeat([]float64{math.NaN()}, 3)[:0]} {
		for _, c := range floatCalls {
			if got := c.call(list); math.Float64bits(got) != 0 {
				t.Errorf("%s of nothing: %v", c.name, got)
			}
		}
		if got := impl.SortFloats(list); len(got) != 0 {
			t.Errorf("SortFloats of nothing: %v", got)
		}
	}
}

func TestFloatDotRefuses(t *testing.T) {
	lists := [][]float64{}
	for _, count := range []int{0, 1, 2, impl.MaxFloats - 1, impl.MaxFloats, impl.MaxFloats + 1, impl.MaxFloats + 2} {
		lists = append(lists, slices.Repeat([]float64{-1}, count))
	}
	for _, a := range lists {
		for _, b := range lists {
			want := 0.0
			if len(a) == len(b) && len(a) <= impl.MaxFloats {
				want = float64(len(a))
			}
			if got := impl.Dot(a, b); math.Float64bits(got) != math.Float64bits(want) {
				t.Errorf("Dot of lists of %d and %d: %v, not %v", len(a), len(b), got, want)
			}
		}
	}
	for _, x := range []float64{math.NaN(), math.Inf(1)} {
		if got := impl.Dot([]float64{x, x}, []float64{x}); math.Float64bits(got) != 0 {
			t.Errorf("Dot of two and one times %v: %v", x, got)
		}
		if got := impl.Dot(nil, []float64{x}); math.Float64bits(got) != 0 {
			t.Errorf("Dot of none and one times %v: %v", x, got)
		}
	}
}

// Nothing is written into an argument, nor into the room behind it, of which nothing is read either.
func TestFloatArgumentsStay(t *testing.T) {
	list := []float64{3, math.Float64frombits(double.all()), 1, math.Copysign(0, -1), 2}
	clean := []float64{3, 1, math.Copysign(0, -1), 2}
	for _, c := range floatCalls {
		for _, one := range [][]float64{list, clean, {}} {
			want := bitsOf(c.call(slices.Clone(one)))
			untouched(t, c.name, one, func(piece []float64) { hold(t, c.name, c.call(piece), want, one...) })
		}
	}
	untouched(t, "SortFloats", list, func(piece []float64) {
		sorted := impl.SortFloats(piece)
		if len(sorted) != len(list) {
			t.Errorf("of %d there are %d", len(list), len(sorted))
		}
		_ = append(sorted[:0], -9, -9, -9, -9, -9)
	})
	untouched(t, "Dot", clean, func(piece []float64) {
		hold(t, "Dot", impl.Dot([]float64{1, 2, 3, 4}, piece), bitsOf(13))
	})
}
