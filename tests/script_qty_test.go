package tests

import (
	"math"
	"testing"

	"loop.example/g00043/impl"
)

func TestQtyOkOfNums(t *testing.T) {
	for num, want := range map[int]bool{
		1: true, 9: true, 10: false, 11: true, 5: true, 100: false, 101: true, 990: false,
		maxSample - 1: true, maxSample: false, maxSample + 1: false, maxSample + 10: false, 999999990: false,
		math.MaxInt: false, 1 << 32: false, 1<<32 + 1: false,
	} {
		for _, pow := range []int{-30, -1, 0, 1, 30} {
			for _, unit := range []int{-9, 0, 1, 9} {
				qtyIs(t, impl.Qty{Num: num, Pow: pow, Volt: unit}, want)
				qtyIs(t, impl.Qty{Num: -num, Pow: pow, Sec: unit}, want)
			}
		}
	}
	qtyIs(t, impl.Qty{Num: math.MinInt}, false)
}

func TestQtyOkOfNought(t *testing.T) {
	for pow := -31; pow <= 31; pow++ {
		for _, unit := range []int{-9, -1, 0, 1, 9} {
			qtyIs(t, impl.Qty{Pow: pow, Volt: unit, Sec: -unit}, pow == 0)
		}
	}
	for _, unit := range []int{-10, 10, math.MinInt, math.MaxInt} {
		qtyIs(t, impl.Qty{Volt: unit}, false)
		qtyIs(t, impl.Qty{Sec: unit}, false)
	}
	qtyIs(t, impl.Qty{Pow: math.MinInt}, false)
	qtyIs(t, impl.Qty{Pow: math.MaxInt}, false)
}

func TestQtyOkOfPowers(t *testing.T) {
	for _, num := range []int{1, -7, maxSample - 1, 1 - maxSample} {
		for pow, want := range map[int]bool{-31: false, -30: true, -29: true, 29: true, 30: true, 31: false, 61: false, math.MinInt: false, math.MaxInt: false} {
			qtyIs(t, impl.Qty{Num: num, Pow: pow}, want)
			qtyIs(t, impl.Qty{Num: num, Pow: pow, Volt: -9, Sec: 9}, want)
		}
		for unit, want := range map[int]bool{-10: false, -9: true, -8: true, 8: true, 9: true, 10: false, math.MinInt: false, math.MaxInt: false} {
			qtyIs(t, impl.Qty{Num: num, Volt: unit}, want)
			qtyIs(t, impl.Qty{Num: num, Sec: unit}, want)
			qtyIs(t, impl.Qty{Num: num, Volt: unit, Sec: unit, Pow: -3}, want)
		}
	}
}

func TestQtyOkByChance(t *testing.T) {
	g := formSource(2011)
	for range 5000 {
		q := impl.Qty{Num: g.ofAnySize(maxSample + 20), Pow: g.within(33), Volt: g.within(10), Sec: g.within(10)}
		qtyIs(t, q, qtyIsRight(q))
		q = g.qty(g.below(10))
		qtyIs(t, q, true)
		q.Num *= 10
		qtyIs(t, q, q == impl.Qty{Volt: q.Volt, Sec: q.Sec})
	}
}
