package tests

import (
	"math"
	"strings"
	"testing"

	"loop.example/g00043/impl"
)

func TestTextDigitsKnown(t *testing.T) {
	for _, c := range []struct {
		value  float64
		n      int
		digits [5]string
		power  [5]int
	}{
		{1, 1, [5]string{"1", "1", "1", "1", "1"}, [5]int{}},
		{1000, 2, [5]string{"10", "10", "10", "10", "10"}, [5]int{3, 3, 3, 3, 3}},
		{2.5, 1, [5]string{"2", "3", "2", "3", "2"}, [5]int{}},
		{-2.5, 1, [5]string{"2", "3", "2", "2", "3"}, [5]int{}},
		{3.5, 1, [5]string{"4", "4", "3", "4", "3"}, [5]int{}},
		{1250, 2, [5]string{"12", "13", "12", "13", "12"}, [5]int{3, 3, 3, 3, 3}},
		{0.125, 2, [5]string{"12", "13", "12", "13", "12"}, [5]int{-1, -1, -1, -1, -1}},
		{0.375, 2, [5]string{"38", "38", "37", "38", "37"}, [5]int{-1, -1, -1, -1, -1}},
		{1251, 2, [5]string{"13", "13", "12", "13", "12"}, [5]int{3, 3, 3, 3, 3}},
		{1249, 2, [5]string{"12", "12", "12", "13", "12"}, [5]int{3, 3, 3, 3, 3}},
		{1000001, 3, [5]string{"100", "100", "100", "101", "100"}, [5]int{6, 6, 6, 6, 6}},
		// Past all nines.
		{999.5, 3, [5]string{"100", "100", "999", "100", "999"}, [5]int{3, 3, 2, 3, 2}},
		{-999.5, 3, [5]string{"100", "100", "999", "999", "100"}, [5]int{3, 3, 2, 2, 3}},
		{9.5, 1, [5]string{"1", "1", "9", "1", "9"}, [5]int{1, 1, 0, 1, 0}},
		{0.96875, 1, [5]string{"1", "1", "9", "1", "9"}, [5]int{0, 0, -1, 0, -1}},
		{-0.096875, 1, [5]string{"1", "1", "9", "9", "1"}, [5]int{-1, -1, -2, -2, -1}},
		{9999999, 6, [5]string{"100000", "100000", "999999", "100000", "999999"}, [5]int{7, 7, 6, 7, 6}},
		{9999994, 6, [5]string{"999999", "999999", "999999", "100000", "999999"}, [5]int{6, 6, 6, 7, 6}},
		{9999999, 7, [5]string{"9999999", "9999999", "9999999", "9999999", "9999999"}, [5]int{6, 6, 6, 6, 6}},
		{9999999, 9, [5]string{"999999900", "999999900", "999999900", "999999900", "999999900"}, [5]int{6, 6, 6, 6, 6}},
	} {
		for i, mode := range formModes {
			digits, power, ok := impl.Digits(impl.Double, math.Float64bits(c.value), c.n, mode)
			if digits != c.digits[i] || power != c.power[i] || !ok {
				t.Errorf("%d digits of %v by mode %d: %q %d %v", c.n, c.value, mode, digits, power, ok)
			}
		}
	}
}

// sameDigits holds n digits of finite bits, by all modes, against the oracle.
func sameDigits(t *testing.T, s formShape, x uint64, n int) {
	t.Helper()
	texts, powers := s.digits(x, n)
	for i, mode := range formModes {
		digits, power, ok := impl.Digits(s.form, x, n, mode)
		if digits != texts[i] || power != powers[i] || !ok {
			t.Errorf("form %d of %x, %d digits by mode %d: %q %d %v, not %q %d", s.form, x, n, mode, digits, power, ok, texts[i], powers[i])
		}
	}
}

func TestTextDigitsOfEdges(t *testing.T) {
	for _, s := range formShapes {
		for _, x := range s.edges() {
			if _, ok := s.notFinite(x); ok {
				continue
			}
			for n := 1; n <= impl.MaxDigits; n++ {
				sameDigits(t, s, x, n)
			}
		}
	}
}

func TestTextDigitsOfMany(t *testing.T) {
	g := formSource(221)
	manyBits(222, 1000, func(s formShape, x uint64) {
		if _, ok := s.notFinite(x); ok {
			return
		}
		n := 1 + int(g.next()%20)
		if g.next()%8 == 0 {
			n = 1 + int(g.next()%impl.MaxDigits)
		}
		sameDigits(t, s, x, n)
	})
}

// A number of few digits is told with noughts behind them, the same by every mode.
func TestTextDigitsAreFilled(t *testing.T) {
	for _, s := range formShapes {
		for _, mode := range formModes {
			for _, sign := range []uint64{0, s.sign()} {
				digits, power, ok := impl.Digits(s.form, s.one()|sign, impl.MaxDigits, mode)
				if digits != "1"+strings.Repeat("0", impl.MaxDigits-1) || power != 0 || !ok {
					t.Errorf("form %d mode %d: %q %d %v", s.form, mode, digits, power, ok)
				}
			}
		}
	}
}

// Seventeen digits by NearEven are read as the number again.
func TestTextDigitsAreRead(t *testing.T) {
	manyBits(223, 3000, func(s formShape, x uint64) {
		digits, power, ok := impl.Digits(s.form, x, 17, impl.NearEven)
		if !ok {
			return
		}
		text := signOf(s.isNeg(x)) + scienceText(digits, power)
		if bits, _, ok := impl.ReadNum(s.form, impl.NearEven, text); bits != x || !ok {
			t.Errorf("form %d of %x: %q is read as %x %v", s.form, x, text, bits, ok)
		}
	})
}
