package tests

import (
	"math"
	"math/big"
	"regexp"
	"strconv"
	"strings"
	"testing"

	"loop.example/g00043/impl"
)

// notFinite tells the texts of what has no digits.
func (s formShape) notFinite(x uint64) (string, bool) {
	switch {
	case s.isNan(x):
		return "nan", true
	case s.isInf(x):
		return signOf(s.isNeg(x)) + "inf", true
	case s.isZero(x):
		return signOf(s.isNeg(x)) + "0", true
	}
	return "", false
}

func TestTextShortKnown(t *testing.T) {
	for _, c := range []struct {
		form int
		bits uint64
		text string
	}{
		// Two shortest decimals are as near: the last digit is even.
		{impl.Half, 0x5C01, "2.562e2"},
		{impl.Half, 0x5C03, "2.568e2"},
		{impl.Half, 0xDC01, "-2.562e2"},
		{impl.Single, uint64(math.Float32bits(2097152.25)), "2.0971522e6"},
		{impl.Single, uint64(math.Float32bits(2097152.75)), "2.0971528e6"},
		{impl.Double, math.Float64bits(562949953421312.25), "5.629499534213122e14"},
		{impl.Double, math.Float64bits(1125899906842624.25), "1.1258999068426242e15"},
		{impl.Double, math.Float64bits(-1125899906842624.75), "-1.1258999068426248e15"},
		// Powers of two.
		{impl.Half, 0x3C00, "1e0"},
		{impl.Half, 0x6800, "2.048e3"},
		{impl.Double, math.Float64bits(1 << 53), "9.007199254740992e15"},
		{impl.Double, 0x0010000000000000, "2.2250738585072014e-308"},
		{impl.Single, 0x00800000, "1.1754944e-38"},
		{impl.Double, math.Float64bits(9007199254740994), "9.007199254740994e15"},
		// Below a power of two numbers stand closer: the nearest decimal of so few digits is another number, the one on the other side is not.
		{impl.Double, math.Float64bits(math.Ldexp(1, -44)), "5.684341886080802e-14"},
		{impl.Double, math.Float64bits(math.Ldexp(1, -24)), "5.960464477539063e-8"},
		// The least above 0.
		{impl.Half, 1, "6e-8"},
		{impl.Half, 2, "1e-7"},
		{impl.Single, 1, "1e-45"},
		{impl.Double, 1, "5e-324"},
		{impl.Double, 2, "1e-323"},
		{impl.Double, 1<<63 | 1, "-5e-324"},
		// The greatest finite one.
		{impl.Half, 0x7BFF, "6.55e4"},
		{impl.Single, 0x7F7FFFFF, "3.4028235e38"},
		{impl.Double, math.Float64bits(math.MaxFloat64), "1.7976931348623157e308"},
		{impl.Double, math.Float64bits(-math.MaxFloat64), "-1.7976931348623157e308"},
		// Seventeen digits, and few.
		{impl.Double, math.Float64bits(0.30000000000000004), "3.0000000000000004e-1"},
		{impl.Double, math.Float64bits(0.3), "3e-1"},
		{impl.Double, math.Float64bits(1e21), "1e21"},
		{impl.Double, math.Float64bits(123456789), "1.23456789e8"},
		{impl.Half, 0xC100, "-2.5e0"},
	} {
		if text := impl.ShowShort(c.form, c.bits); text != c.text {
			t.Errorf("form %d of %x: %q, not %q", c.form, c.bits, text, c.text)
		}
	}
}

func TestTextShortIsShortestAndNearest(t *testing.T) {
	manyBits(211, 600, func(s formShape, x uint64) {
		want, ok := s.notFinite(x)
		if !ok {
			want = s.short(x)
		}
		if text := impl.ShowShort(s.form, x); text != want {
			t.Errorf("form %d of %x: %q, not %q", s.form, x, text, want)
		}
	})
}

func TestTextShortAtAllPowersOfTwo(t *testing.T) {
	for _, s := range formShapes[1:] {
		for exponent := 1; exponent <= 2*s.top; exponent++ {
			x := uint64(exponent) << (s.precision - 1)
			if text, want := impl.ShowShort(s.form, x), s.short(x); text != want {
				t.Errorf("form %d of %x: %q, not %q", s.form, x, text, want)
			}
		}
		for x := uint64(1); x < s.normal(); x *= 2 {
			if text, want := impl.ShowShort(s.form, x), s.short(x); text != want {
				t.Errorf("form %d of %x: %q, not %q", s.form, x, text, want)
			}
		}
	}
}

// Quarters where the unit is a quarter lie in the middle of two decimals with one digit behind the point.
func TestTextShortOfTwoAsNear(t *testing.T) {
	for _, s := range formShapes {
		exponent := uint64(s.top + s.precision - 3)
		for fraction := uint64(1); fraction < min(400, s.normal()); fraction += 2 {
			x := exponent<<(s.precision-1) | fraction
			text := impl.ShowShort(s.form, x)
			v, _ := new(big.Rat).SetString(text)
			away := v.Sub(v, s.size(x))
			last := text[strings.Index(text, "e")-1]
			if away.Abs(away).Cmp(big.NewRat(1, 20)) != 0 || last%2 != 0 {
				t.Errorf("form %d of %x: %q", s.form, x, text)
			}
		}
	}
}

func TestTextComesBackFromShort(t *testing.T) {
	manyBits(212, 10000, func(s formShape, x uint64) {
		want := x
		if s.isNan(x) {
			want = s.plain()
		}
		text := impl.ShowShort(s.form, x)
		if bits, _, ok := impl.ReadNum(s.form, impl.NearEven, text); bits != want || !ok {
			t.Errorf("form %d of %x: %q is read as %x %v", s.form, x, text, bits, ok)
		}
	})
}

// fewer are the two decimals with count digits between which a finite number lies; no other ones of so few can be read as it if these are not.
func (s formShape) fewer(x uint64, count int) [2]string {
	size := s.size(x &^ s.sign())
	power := firstPower(size)
	low := wholePart(new(big.Rat).Quo(size, tenPower(power-count+1)))
	high := new(big.Int).Add(low, big.NewInt(1))
	unit := "e" + strconv.Itoa(power-count+1)
	sign := signOf(s.isNeg(x))
	return [2]string{sign + low.String() + unit, sign + high.String() + unit}
}

func TestTextNoShorterIsRead(t *testing.T) {
	manyBits(213, 2000, func(s formShape, x uint64) {
		if _, ok := s.notFinite(x); ok {
			return
		}
		text := impl.ShowShort(s.form, x)
		mantissa, _, _ := strings.Cut(strings.TrimPrefix(text, "-"), "e")
		count := len(strings.Replace(mantissa, ".", "", 1))
		if count == 1 {
			return
		}
		for _, shorter := range s.fewer(x, count-1) {
			if bits, _, ok := impl.ReadNum(s.form, impl.NearEven, shorter); bits == x || !ok {
				t.Errorf("form %d of %x: %q, but %q is read as %x %v", s.form, x, text, shorter, bits, ok)
			}
		}
	})
}

func TestTextShortIsAsLongAsTheMachines(t *testing.T) {
	manyBits(214, 5000, func(s formShape, x uint64) {
		if _, ok := s.notFinite(x); ok || s.form == impl.Half {
			return
		}
		v, width := math.Float64frombits(x), 64
		if s.form == impl.Single {
			v, width = float64(math.Float32frombits(uint32(x))), 32
		}
		mantissa, _, _ := strings.Cut(strconv.FormatFloat(v, 'e', -1, width), "e")
		if text := impl.ShowShort(s.form, x); strings.Index(text, "e") != len(mantissa) {
			t.Errorf("form %d of %x: %q, but %q", s.form, x, text, mantissa)
		}
	})
}

var exactForm = regexp.MustCompile(`^-?(0|[1-9][0-9]*)(\.[0-9]*[1-9])?$`)

func TestTextExactIsTheNumber(t *testing.T) {
	manyBits(215, 2000, func(s formShape, x uint64) {
		text := impl.ShowExact(s.form, x)
		if want, ok := s.notFinite(x); ok {
			if text != want {
				t.Errorf("form %d of %x: %q, not %q", s.form, x, text, want)
			}
			return
		}
		v, ok := new(big.Rat).SetString(text)
		if !ok || v.Cmp(s.value(x)) != 0 || !exactForm.MatchString(text) {
			t.Errorf("form %d of %x: %q", s.form, x, text)
		}
	})
}

func TestTextExactKnown(t *testing.T) {
	exactly := func(x float64) string {
		return strings.TrimRight(strings.TrimRight(strconv.FormatFloat(x, 'f', 1074, 64), "0"), ".")
	}
	for _, c := range []struct {
		form int
		bits uint64
		text string
	}{
		{impl.Half, 0x3C00, "1"},
		{impl.Half, 0x3800, "0.5"},
		{impl.Half, 0xC100, "-2.5"},
		{impl.Half, 0x4900, "10"},
		{impl.Half, 0x63D0, "1000"},
		{impl.Half, 1, "0.000000059604644775390625"},
		{impl.Half, 0x8001, "-0.000000059604644775390625"},
		{impl.Half, 0x7BFF, "65504"},
		{impl.Half, 0xFBFF, "-65504"},
		{impl.Single, 1, exactly(math.SmallestNonzeroFloat32)},
		{impl.Single, 0x7F7FFFFF, "340282346638528859811704183484516925440"},
		{impl.Double, math.Float64bits(0.1), "0.1000000000000000055511151231257827021181583404541015625"},
		{impl.Double, math.Float64bits(1e23), "99999999999999991611392"},
		{impl.Double, math.Float64bits(100), "100"},
		{impl.Double, 1, exactly(math.SmallestNonzeroFloat64)},
		{impl.Double, 1<<63 | 1, exactly(-math.SmallestNonzeroFloat64)},
		{impl.Double, math.Float64bits(math.MaxFloat64), exactly(math.MaxFloat64)},
		{impl.Double, math.Float64bits(-math.MaxFloat64), exactly(-math.MaxFloat64)},
		{impl.Double, 0x000FFFFFFFFFFFFF, exactly(math.Float64frombits(0x000FFFFFFFFFFFFF))},
	} {
		if text := impl.ShowExact(c.form, c.bits); text != c.text {
			t.Errorf("form %d of %x: %q, not %q", c.form, c.bits, text, c.text)
		}
	}
}

func TestTextComesBackFromExact(t *testing.T) {
	many := map[bool]int{}
	manyBits(216, 3000, func(s formShape, x uint64) {
		want := x
		if s.isNan(x) {
			want = s.plain()
		}
		text := impl.ShowExact(s.form, x)
		few := isNumberText(text)
		if !few {
			want = 0
		}
		many[few]++
		for _, mode := range formModes {
			if bits, flags, ok := impl.ReadNum(s.form, mode, text); bits != want || flags != 0 || ok != few {
				t.Errorf("form %d mode %d of %x: %q is read as %x flags %d %v", s.form, mode, x, text, bits, flags, ok)
			}
		}
	})
	if many[true] < 1000 || many[false] < 1000 {
		t.Errorf("too few of one sort: %v", many)
	}
}
