package tests

import (
	"math"
	"testing"

	"loop.example/g00043/impl"
)

func showIs(t *testing.T, q impl.Qty, want string) {
	t.Helper()
	if got := impl.ShowQty(q); got != want {
		t.Errorf("ShowQty of %v is %q, not %q", q, got, want)
	}
	showHolds(t, q)
}

func TestShowQtyOfFigures(t *testing.T) {
	for _, c := range []struct {
		num, pow int
		want     string
	}{
		{0, 0, "0"}, {1, 0, "1"}, {-1, 0, "-1"}, {12, 0, "12"}, {12, 2, "1200"}, {-12, 2, "-1200"}, {12, -1, "1.2"}, {12, -2, "0.12"}, {12, -3, "0.012"},
		{5, -2, "0.05"}, {-5, -1, "-0.5"}, {1, 8, "100000000"}, {1, 9, ""}, {99, 7, "990000000"}, {99, 8, ""}, {1, -8, "0.00000001"}, {1, -9, ""},
		{123456789, 0, "123456789"}, {-123456789, 0, "-123456789"}, {123456789, 1, ""}, {123456789, -1, "12345678.9"}, {123456789, -8, "1.23456789"},
		{123456789, -9, ""}, {12345678, -8, "0.12345678"}, {12345678, -9, ""}, {12345678, 1, "123456780"}, {12345678, 2, ""},
		{999999999, 0, "999999999"}, {1, 30, ""}, {1, -30, ""}, {-3, 29, ""},
	} {
		showIs(t, plain(c.num, c.pow), c.want)
	}
}

func TestShowQtyOfUnits(t *testing.T) {
	for _, c := range []struct {
		volt, sec int
		want      string
	}{
		{0, 0, "2.5"}, {1, 0, "2.5 V"}, {0, 1, "2.5 s"}, {1, 1, "2.5 V*s"}, {2, 0, "2.5 V2"}, {0, -1, "2.5 s-1"}, {-1, -1, "2.5 V-1*s-1"},
		{9, -9, "2.5 V9*s-9"}, {-9, 9, "2.5 V-9*s9"}, {1, -9, "2.5 V*s-9"}, {2, 1, "2.5 V2*s"}, {-1, 0, "2.5 V-1"}, {10, 0, ""}, {0, -10, ""},
	} {
		showIs(t, impl.Qty{Num: 25, Pow: -1, Volt: c.volt, Sec: c.sec}, c.want)
	}
	showIs(t, impl.Qty{Volt: 1}, "0 V")
	showIs(t, impl.Qty{Volt: -2, Sec: 3}, "0 V-2*s3")
	showIs(t, impl.Qty{Num: 123456789, Volt: -9, Sec: -9}, "123456789 V-9*s-9")
}

func TestShowQtyOfWrong(t *testing.T) {
	for _, q := range []impl.Qty{
		{Num: 10}, {Num: -20, Volt: 1}, {Pow: 1}, {Pow: -1}, {Num: 1, Pow: 31}, {Num: 1, Pow: -31}, {Num: 1, Volt: 10}, {Num: 1, Sec: -10},
		{Num: maxSample}, {Num: maxSample + 1}, {Num: math.MinInt}, {Num: math.MaxInt}, {Num: 1, Pow: math.MinInt}, {Num: 1, Pow: math.MaxInt}, {Volt: math.MinInt},
	} {
		showIs(t, q, "")
	}
}

// Each power of ten with a Num of each length: those that have a text come back from it.
func TestShowQtyComesBack(t *testing.T) {
	g := formSource(2031)
	for digits := 1; digits <= 9; digits++ {
		for pow := -31; pow <= 31; pow++ {
			for range 4 {
				q := g.qty(digits)
				q.Pow = pow
				showHolds(t, q)
			}
		}
	}
	for range 3000 {
		q := g.qty(1 + g.below(9))
		q.Pow = g.within(9)
		showHolds(t, q)
	}
}
