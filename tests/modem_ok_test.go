package tests

import (
	"testing"

	"loop.example/g00043/impl"
)

func modemIs(t *testing.T, m impl.Modem, want bool) {
	t.Helper()
	if got := impl.ModemOk(m); got != want {
		t.Errorf("ModemOk of %v is %v", m, got)
	}
}

func TestModemOkAtItsEnds(t *testing.T) {
	for _, c := range []struct {
		m    impl.Modem
		want bool
	}{
		{impl.Modem{Width: 2, Mend: 1, Rows: 1, Seed: 1, Rate: 1, Size: 1}, true}, {impl.Modem{Width: 8, Mend: 8, Rows: 64, Seed: 65535, Rate: 8, Size: 10000}, true}, {impl.Modem{}, false},
		{impl.Modem{Width: 2, Mend: 0, Rows: 1, Seed: 1, Rate: 1, Size: 1}, false}, {impl.Modem{Width: 2, Mend: 8, Rows: 1, Seed: 1, Rate: 1, Size: 1}, true}, {impl.Modem{Width: 2, Mend: 9, Rows: 1, Seed: 1, Rate: 1, Size: 1}, false},
		{impl.Modem{Width: 2, Mend: 1, Rows: 0, Seed: 1, Rate: 1, Size: 1}, false}, {impl.Modem{Width: 2, Mend: 1, Rows: 64, Seed: 1, Rate: 1, Size: 1}, true}, {impl.Modem{Width: 2, Mend: 1, Rows: 65, Seed: 1, Rate: 1, Size: 1}, false},
		{impl.Modem{Width: 2, Mend: 1, Rows: 1, Seed: 0, Rate: 1, Size: 1}, false}, {impl.Modem{Width: 2, Mend: 1, Rows: 1, Seed: 65535, Rate: 1, Size: 1}, true}, {impl.Modem{Width: 2, Mend: 1, Rows: 1, Seed: 65536, Rate: 1, Size: 1}, false},
		{impl.Modem{Width: 2, Mend: 1, Rows: 1, Seed: 1, Rate: 0, Size: 1}, false}, {impl.Modem{Width: 2, Mend: 1, Rows: 1, Seed: 1, Rate: 8, Size: 1}, true}, {impl.Modem{Width: 2, Mend: 1, Rows: 1, Seed: 1, Rate: 9, Size: 1}, false},
		{impl.Modem{Width: 2, Mend: 1, Rows: 1, Seed: 1, Rate: 1, Size: 0}, false}, {impl.Modem{Width: 2, Mend: 1, Rows: 1, Seed: 1, Rate: 1, Size: 10000}, true}, {impl.Modem{Width: 2, Mend: 1, Rows: 1, Seed: 1, Rate: 1, Size: 10001}, false},
	} {
		modemIs(t, c.m, c.want)
	}
	for width := -12; width <= 12; width++ {
		modemIs(t, impl.Modem{Width: width, Mend: 4, Rows: 4, Seed: 99, Rate: 2, Size: 11}, width == 2 || width == 4 || width == 6 || width == 8)
	}
}

func TestModemOkOfMany(t *testing.T) {
	for _, m := range append(manyModems(), fewModems()...) {
		modemIs(t, m, true)
	}
	for _, m := range noModems() {
		modemIs(t, m, false)
	}
}

func holdBudget(t *testing.T, m impl.Modem, want, wantMany int) {
	t.Helper()
	if size, many := impl.Budget(m); size != want || many != wantMany {
		t.Errorf("Budget of %v is %d, %d, not %d, %d", m, size, many, want, wantMany)
	}
}

func TestModemBudgetByHand(t *testing.T) {
	for _, c := range []struct{ width, mend, size, want, many int }{
		{2, 1, 1, 0, 0}, {2, 2, 2, 0, 1}, {2, 3, 3, 1, 1}, {2, 4, 4, 1, 2}, {2, 8, 5, 2, 4},
		{4, 3, 10, 4, 0}, {4, 4, 11, 5, 1}, {4, 5, 12, 5, 1}, {4, 7, 9999, 4999, 1}, {4, 8, 10000, 4999, 2},
		{6, 5, 2, 0, 0}, {6, 6, 1, 0, 1}, {6, 7, 100, 49, 1}, {6, 8, 101, 50, 1},
		{8, 1, 10000, 4999, 0}, {8, 7, 1, 0, 0}, {8, 8, 3, 1, 1},
	} {
		holdBudget(t, impl.Modem{Width: c.width, Mend: c.mend, Rows: 3, Seed: 5, Rate: 7, Size: c.size}, c.want, c.many)
	}
}

// With a noise that is one more at each place of a symbol, this one may be another; with the Budget's it is the same.
func TestModemBudgetIsTheMost(t *testing.T) {
	for size := 1; size <= 300; size++ {
		m := impl.Modem{Width: 2, Mend: 1, Rows: 1, Seed: 1, Rate: 1, Size: size}
		most, _ := impl.Budget(m)
		holdInt(t, "the noise that rounds away", nearestSlow(most, size), 0, size)
		holdInt(t, "the noise below 0 that rounds away", nearestSlow(-most, size), 0, size)
		holdInt(t, "one more", nearestSlow(most+1, size), 1, size)
	}
}

func TestModemBudgetOfNone(t *testing.T) {
	for _, m := range noModems() {
		holdBudget(t, m, 0, 0)
	}
}
