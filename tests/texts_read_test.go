package tests

import (
	"math"
	"math/big"
	"strconv"
	"strings"
	"testing"

	"loop.example/g00043/impl"
)

// readsAs holds ReadNum of a text, by all modes and in all forms, against the oracle.
func readsAs(t *testing.T, text string) {
	t.Helper()
	for _, s := range formShapes {
		want, ok := s.read(text)
		for i, mode := range formModes {
			bits, flags, got := impl.ReadNum(s.form, mode, text)
			if bits != want[i].bits || flags != want[i].flags || got != ok {
				t.Errorf("form %d mode %d of %q: %x flags %d %v, not %x flags %d %v", s.form, mode, text, bits, flags, got, want[i].bits, want[i].flags, ok)
			}
		}
	}
}

// bothSigns reads a text with and without a `-`.
func bothSigns(t *testing.T, text string) {
	t.Helper()
	readsAs(t, text)
	readsAs(t, "-"+text)
}

func TestTextReadKnown(t *testing.T) {
	const i, u, o = impl.FlagInexact, impl.FlagUnder, impl.FlagOver
	for _, c := range []struct {
		form  int
		text  string
		bits  [5]uint64
		flags int
	}{
		{impl.Half, "1", [5]uint64{0x3C00, 0x3C00, 0x3C00, 0x3C00, 0x3C00}, 0},
		{impl.Half, "-2.5e-1", [5]uint64{0xB400, 0xB400, 0xB400, 0xB400, 0xB400}, 0},
		{impl.Half, "0.1", [5]uint64{0x2E66, 0x2E66, 0x2E66, 0x2E67, 0x2E66}, i},
		{impl.Half, "2049", [5]uint64{0x6800, 0x6801, 0x6800, 0x6801, 0x6800}, i},
		{impl.Half, "-2049", [5]uint64{0xE800, 0xE801, 0xE800, 0xE800, 0xE801}, i},
		{impl.Half, "2051", [5]uint64{0x6802, 0x6802, 0x6801, 0x6802, 0x6801}, i},
		{impl.Half, "2049.00000000000000000000000000000000000000000000000000000001", [5]uint64{0x6801, 0x6801, 0x6800, 0x6801, 0x6800}, i},
		{impl.Half, "2048.99999999999999999999999999999999999999999999999999999999", [5]uint64{0x6800, 0x6800, 0x6800, 0x6801, 0x6800}, i},
		{impl.Half, "1e-400", [5]uint64{0, 0, 0, 1, 0}, i + u},
		{impl.Half, "-1e-400", [5]uint64{0x8000, 0x8000, 0x8000, 0x8000, 0x8001}, i + u},
		{impl.Half, "2.98023223876953125e-8", [5]uint64{0, 1, 0, 1, 0}, i + u},
		{impl.Half, "6.103515625e-5", [5]uint64{0x400, 0x400, 0x400, 0x400, 0x400}, 0},
		{impl.Half, "6.1035e-5", [5]uint64{0x400, 0x400, 0x3FF, 0x400, 0x3FF}, i + u},
		{impl.Half, "65504", [5]uint64{0x7BFF, 0x7BFF, 0x7BFF, 0x7BFF, 0x7BFF}, 0},
		{impl.Half, "65536", [5]uint64{0x7C00, 0x7C00, 0x7BFF, 0x7C00, 0x7BFF}, i + o},
		{impl.Half, "-1e400", [5]uint64{0xFC00, 0xFC00, 0xFBFF, 0xFBFF, 0xFC00}, i + o},
		{impl.Double, "5e-324", [5]uint64{1, 1, 1, 2, 1}, i + u},
		{impl.Double, "1e400", [5]uint64{0x7FF0 << 48, 0x7FF0 << 48, 0x7FF0<<48 - 1, 0x7FF0 << 48, 0x7FF0<<48 - 1}, i + o},
		{impl.Single, "16777217", [5]uint64{0x4B800000, 0x4B800001, 0x4B800000, 0x4B800001, 0x4B800000}, i},
	} {
		for k, mode := range formModes {
			bits, flags, ok := impl.ReadNum(c.form, mode, c.text)
			if bits != c.bits[k] || flags != c.flags || !ok {
				t.Errorf("form %d mode %d of %q: %#x flags %d %v", c.form, mode, c.text, bits, flags, ok)
			}
		}
	}
}

// Where one rounding overflows and another does not, their flags differ too.
func TestTextReadOverflowsByMode(t *testing.T) {
	over := impl.FlagOver + impl.FlagInexact
	for _, c := range []struct {
		text  string
		bits  [5]uint64
		flags [5]int
	}{
		{"65519.99", [5]uint64{0x7BFF, 0x7BFF, 0x7BFF, 0x7C00, 0x7BFF}, [5]int{1, 1, 1, over, 1}},
		{"65520", [5]uint64{0x7C00, 0x7C00, 0x7BFF, 0x7C00, 0x7BFF}, [5]int{over, over, 1, over, 1}},
		{"-65520", [5]uint64{0xFC00, 0xFC00, 0xFBFF, 0xFBFF, 0xFC00}, [5]int{over, over, 1, 1, over}},
	} {
		for k, mode := range formModes {
			bits, flags, ok := impl.ReadNum(impl.Half, mode, c.text)
			if bits != c.bits[k] || flags != c.flags[k] || !ok {
				t.Errorf("mode %d of %q: %#x flags %d %v", mode, c.text, bits, flags, ok)
			}
		}
	}
}

func TestTextReadBetweenTwo(t *testing.T) {
	g := formSource(201)
	for _, s := range formShapes {
		great := s.infinity() - 1
		sizes := []uint64{0, 1, 2, s.normal() - 2, s.normal() - 1, s.normal(), s.one() - 1, s.one(), s.one() + 1, great - 1, great}
		for range 60 {
			sizes = append(sizes, g.bits(s)&^s.sign()%s.infinity())
		}
		// Where the unit is not far from 1, the middle has few digits.
		for range 60 {
			exponent := uint64(s.top+s.precision/2) + g.next()%uint64(min(s.top-s.precision/2, 100))
			sizes = append(sizes, exponent<<(s.precision-1)|g.next()&(s.normal()-1))
		}
		for _, x := range sizes {
			middle := new(big.Rat).Add(s.size(x), s.size(x+1))
			middle.Mul(middle, big.NewRat(1, 2))
			for _, size := range []*big.Rat{s.size(x + 1), middle} {
				for _, text := range besides(size) {
					bothSigns(t, text)
				}
			}
		}
	}
}

// All middles of the form Half have few enough digits; so the whole form is gone through.
func TestTextReadAllMiddlesOfHalf(t *testing.T) {
	s := formShapes[0]
	for x := uint64(0); x < s.infinity(); x++ {
		middle := new(big.Rat).Add(s.size(x), s.size(x+1))
		middle.Mul(middle, big.NewRat(1, 2))
		digits, power := allDigits(middle)
		text := scienceText(digits, power)
		low, high := x, x+1
		even := low + low%2
		for i, want := range []uint64{even, high, low, high, low} {
			if bits, _, ok := impl.ReadNum(s.form, formModes[i], text); bits != want || !ok {
				t.Errorf("mode %d of %s: %x, not %x", formModes[i], text, bits, want)
			}
		}
	}
}

func TestTextReadManyTexts(t *testing.T) {
	g := formSource(202)
	for range 500 {
		digits := make([]byte, 1+g.next()%impl.MaxDigits)
		for i := range digits {
			digits[i] = byte('0' + g.next()%10)
		}
		digits[0] = byte('1' + g.next()%9)
		span := []int{8, 50, 340, impl.MaxPower}[g.next()%4]
		bothSigns(t, scienceText(string(digits), int(g.next()%uint64(2*span+1))-span))
	}
}

func TestTextReadAsTheMachineDoes(t *testing.T) {
	g := formSource(203)
	for range 20000 {
		power := int(g.next()%680) - 345
		text := strconv.FormatUint(g.next()>>(g.next()%64), 10) + "e" + strconv.Itoa(power)
		x, _ := strconv.ParseFloat(text, 64)
		if bits, _, ok := impl.ReadNum(impl.Double, impl.NearEven, text); bits != math.Float64bits(x) || !ok {
			t.Errorf("double %s: %x %v", text, bits, ok)
		}
		y, _ := strconv.ParseFloat(text, 32)
		if bits, _, ok := impl.ReadNum(impl.Single, impl.NearEven, text); bits != uint64(math.Float32bits(float32(y))) || !ok {
			t.Errorf("single %s: %x %v", text, bits, ok)
		}
	}
}

// This decimal is above the middle of two numbers by less than one part in 2^139, and the lower one is even.
func TestTextReadHardlyAboveTheMiddle(t *testing.T) {
	const text = "49643778538481601580877e-298"
	bothSigns(t, text)
	down, _, _ := impl.ReadNum(impl.Double, impl.ToDown, text)
	if bits, _, ok := impl.ReadNum(impl.Double, impl.NearEven, text); bits != down+1 || down%2 != 0 || !ok {
		t.Errorf("%x above %x %v", bits, down, ok)
	}
}

func TestTextReadSameNumber(t *testing.T) {
	for _, group := range [][]string{
		{"0", "0.0", "0.00", "0e0", "0e400", "0e-400", "0.000e7"},
		{"1", "1.0", "1e0", "10e-1", "0.1e1", "0.0001e4", "1000e-3", "1.000e0"},
		{"1234.5", "12345e-1", "1.2345e3", "0.12345e4", "1234.50000", "123450e-2"},
		{"0.001", "1e-3", "0.1e-2", "10e-4", "100.0e-5"},
		{strings.Repeat("9", 60), strings.Repeat("9", 30) + "." + strings.Repeat("9", 30) + "e30", "9." + strings.Repeat("9", 59) + "e59"},
		{"0." + strings.Repeat("0", 58) + "3e400", "3e341", "30e340"},
		{"1" + strings.Repeat("0", 59) + "e-400", "1e-341", "0.1e-340"},
	} {
		for _, text := range group {
			bothSigns(t, text)
			for _, s := range formShapes {
				for _, mode := range formModes {
					want, flags, _ := impl.ReadNum(s.form, mode, group[0])
					if bits, f, ok := impl.ReadNum(s.form, mode, text); bits != want || f != flags || !ok {
						t.Errorf("form %d mode %d of %q: %x flags %d %v, but of %q %x flags %d", s.form, mode, text, bits, f, ok, group[0], want, flags)
					}
				}
			}
		}
	}
}

func TestTextReadZerosInfinitiesAndNan(t *testing.T) {
	for _, s := range formShapes {
		for _, mode := range formModes {
			for text, want := range map[string]uint64{
				"0": 0, "-0": s.sign(), "0.0": 0, "-0.0": s.sign(), "-0e400": s.sign(), "-0.00e-400": s.sign(),
				"inf": s.infinity(), "-inf": s.infinity() | s.sign(), "nan": s.plain(),
			} {
				if bits, flags, ok := impl.ReadNum(s.form, mode, text); bits != want || flags != 0 || !ok {
					t.Errorf("form %d mode %d of %q: %x flags %d %v", s.form, mode, text, bits, flags, ok)
				}
			}
		}
	}
}
