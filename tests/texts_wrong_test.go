package tests

import (
	"math"
	"strings"
	"testing"

	"loop.example/g00043/impl"
)

// isText holds ReadNum's third answer, and what stands beside a false, in all forms and modes.
func isText(t *testing.T, text string, want bool) {
	t.Helper()
	for _, s := range formShapes {
		for _, mode := range formModes {
			bits, flags, ok := impl.ReadNum(s.form, mode, text)
			if ok != want {
				t.Errorf("form %d mode %d of %q: %v", s.form, mode, text, ok)
			}
			if !ok && (bits != 0 || flags != 0) {
				t.Errorf("form %d mode %d of %q: %x flags %d beside false", s.form, mode, text, bits, flags)
			}
		}
	}
}

func TestTextClauses(t *testing.T) {
	nines, noughts := strings.Repeat("9", impl.MaxDigits), strings.Repeat("0", impl.MaxDigits)
	for clause, texts := range map[string]struct{ good, bad []string }{
		"signs": {
			[]string{"1", "-1", "0", "-0", "-0.5", "-1e-1"},
			[]string{"", "-", "+1", "--1", "+", "-+1", "1-", "- 1", " 1", "1 ", "1\n", "\u22121"},
		},
		"infinities and nan": {
			[]string{"inf", "-inf", "nan"},
			[]string{"-nan", "+inf", "--inf", "Inf", "INF", "NaN", "infinity", "infe1", "inf.", "inf0", "1inf", "nane1", "nan0", "in", "na", "i", "n", "-i", "-in", "inf-", "e"},
		},
		"needless noughts ahead": {
			[]string{"0", "0.5", "0e5", "10", "100.5", "-0.25"},
			[]string{"00", "01", "-01", "00.5", "01.5", "-00", "000", "01e1"},
		},
		"noughts behind the point are free": {
			[]string{"1.0", "1.50", "0.0", "0.00", "0.050", "1.000e2"},
			nil,
		},
		"points": {
			[]string{"1.5", "0.5", "1.5e1"},
			[]string{".5", "5.", "-.5", "-5.", ".", "-.", "1..5", "1.5.5", "1.e5", ".e5", ".5e5", "1.-5", "1,5", "1.+5"},
		},
		"e": {
			[]string{"1e1", "1e-1", "1e0", "1.5e10", "0e0", "-0e1", "-1e-10"},
			[]string{"1e", "1e-", "e1", "-e1", "1E1", "1e+1", "1ee1", "1e1e1", "1e1.5", "1e--1", "1e.5", "1.5e", "1e1-", "1e-1-"},
		},
		"needless noughts behind e": {
			[]string{"1e0", "1e10", "1e100", "1e-10"},
			[]string{"1e05", "1e00", "1e-05", "1e-0", "1e-00", "0e-0", "1e01", "1e000"},
		},
		"other runes": {
			nil,
			[]string{"1x", "x", "0x1", "1_000", "1f", "1\x00", "\xff", "1\xff", "1e\xff", "\u0663", "1\u0663", "\uff11", "1e\u0661", "1.\u0661", "\u221e", "1\u00b2", "\U0001D7D9"},
		},
		"MaxDigits": {
			[]string{nines, "-" + nines, "9." + nines[1:], nines + "e400", nines[1:] + ".9", "0." + noughts[1:], "1" + noughts[1:], "-9." + nines[1:] + "e-400"},
			[]string{nines + "9", "-" + nines + "9", "9." + nines, nines + ".9", "0." + noughts, "1" + noughts, "1" + noughts + "e-60", "1." + noughts, nines + "9e-5", "1" + noughts + noughts + noughts},
		},
		"MaxPower": {
			[]string{"1e400", "1e-400", "-1e400", "-1e-400", "0e400", "0.1e400", nines + "e-400"},
			[]string{"1e401", "1e-401", "0e401", "0e-401", "-1e401", "1e4000", "1e500", "10e401", "0.1e401", "1e4294967296", "1e18446744073709551616", "1e-18446744073709551617", "1e" + nines},
		},
	} {
		for _, text := range texts.good {
			isText(t, text, true)
			if !isNumberText(text) {
				t.Errorf("%s: the oracle does not take %q", clause, text)
			}
		}
		for _, text := range texts.bad {
			isText(t, text, false)
			if isNumberText(text) {
				t.Errorf("%s: the oracle takes %q", clause, text)
			}
		}
	}
}

// manyTexts calls with each text of at most that many of the runes.
func manyTexts(runes string, most int, call func(text string)) {
	var grow func(text string, left int)
	grow = func(text string, left int) {
		call(text)
		if left == 0 {
			return
		}
		for _, r := range runes {
			grow(text+string(r), left-1)
		}
	}
	grow("", most)
}

func TestTextAllShortTexts(t *testing.T) {
	for runes, most := range map[string]int{"-01.e": 7, "-5e4.0": 6, "-infae": 5, "+-1E e": 5} {
		manyTexts(runes, most, func(text string) {
			want := isNumberText(text)
			bits, flags, ok := impl.ReadNum(impl.Half, impl.ToUp, text)
			if ok != want || !ok && (bits != 0 || flags != 0) {
				t.Errorf("%q: %x flags %d %v", text, bits, flags, ok)
			}
		})
	}
}

func TestTextLongTextsEnd(t *testing.T) {
	for _, part := range []string{"0", "1", "-", ".", "e", "1e", "\xff", "inf"} {
		isText(t, strings.Repeat(part, 1<<16), false)
		isText(t, "1e"+strings.Repeat(part, 1<<16), false)
		isText(t, "1."+strings.Repeat(part, 1<<16), false)
	}
}

func TestTextReadRefuses(t *testing.T) {
	for _, text := range []string{"1", "-0", "-inf", "nan", "1e400", "x"} {
		for _, form := range wrongForms {
			for _, mode := range formModes {
				if bits, flags, ok := impl.ReadNum(form, mode, text); bits != 0 || flags != 0 || ok {
					t.Errorf("form %d mode %d of %q: %x flags %d %v", form, mode, text, bits, flags, ok)
				}
			}
		}
		for _, s := range formShapes {
			for _, mode := range wrongModes {
				if bits, flags, ok := impl.ReadNum(s.form, mode, text); bits != 0 || flags != 0 || ok {
					t.Errorf("form %d mode %d of %q: %x flags %d %v", s.form, mode, text, bits, flags, ok)
				}
			}
		}
	}
}

func TestTextShowsRefuse(t *testing.T) {
	for _, form := range wrongForms {
		for _, x := range []uint64{0, 1, 0x3C00, 0x7C00, 0x7E00, math.MaxUint64} {
			if short, exact := impl.ShowShort(form, x), impl.ShowExact(form, x); short != "" || exact != "" {
				t.Errorf("form %d of %x: %q, %q", form, x, short, exact)
			}
		}
	}
	for _, s := range formShapes {
		for _, x := range wrongBits(s) {
			if short, exact := impl.ShowShort(s.form, x), impl.ShowExact(s.form, x); short != "" || exact != "" {
				t.Errorf("form %d of %x: %q, %q", s.form, x, short, exact)
			}
		}
	}
}

func noDigits(t *testing.T, form int, x uint64, n int, mode int) {
	t.Helper()
	if digits, power, ok := impl.Digits(form, x, n, mode); digits != "" || power != 0 || ok {
		t.Errorf("form %d of %x, %d digits by mode %d: %q %d %v", form, x, n, mode, digits, power, ok)
	}
}

func TestTextDigitsRefuse(t *testing.T) {
	for _, form := range wrongForms {
		noDigits(t, form, 0x3C00, 3, impl.NearEven)
	}
	for _, s := range formShapes {
		for _, mode := range wrongModes {
			noDigits(t, s.form, s.one(), 3, mode)
		}
		for _, mode := range formModes {
			for _, n := range []int{math.MinInt, -1, 0, impl.MaxDigits + 1, impl.MaxDigits + 2, 1000, math.MaxInt} {
				noDigits(t, s.form, s.one(), n, mode)
				noDigits(t, s.form, 1, n, mode)
			}
			for _, size := range []uint64{0, s.infinity(), s.infinity() + 1, s.plain(), s.sign() - 1} {
				noDigits(t, s.form, size, 3, mode)
				noDigits(t, s.form, size|s.sign(), 3, mode)
			}
			for _, x := range wrongBits(s) {
				noDigits(t, s.form, x, 3, mode)
			}
		}
	}
}
