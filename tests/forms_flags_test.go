package tests

import (
	"testing"

	"loop.example/g00043/impl"
)

// Bits of the form Half, by name.
const (
	halfMinus     = 0x8000
	halfLeast     = 0x0001
	halfBelow     = 0x03FF // the greatest number below normal
	halfNormal    = 0x0400 // 2^(1-E)
	halfOne       = 0x3C00
	halfTwo       = 0x4000
	halfThree     = 0x4200
	halfGreatest  = 0x7BFF
	halfInf       = 0x7C00
	halfSignal    = 0x7C01
	halfQuiet     = 0x7E00
	halfHalf      = 0x3800
	halfHalfUlp   = 0x1000 // 2^-11
	halfSixteen   = 0x4C00 // half a step at the greatest number
	halfLessThan  = 0x4BFF // just below 16
	noFlags       = 0
	inexact       = impl.FlagInexact
	inexactUnder  = impl.FlagInexact + impl.FlagUnder
	inexactOver   = impl.FlagInexact + impl.FlagOver
	halfOneUp     = halfOne + 1
	halfMinusOne  = halfOne | halfMinus
	halfMinusInf  = halfInf | halfMinus
	halfMinusMost = halfGreatest | halfMinus
)

func TestFormConstants(t *testing.T) {
	for i, c := range [][2]int{
		{impl.Half, 1}, {impl.Single, 2}, {impl.Double, 3},
		{impl.NearEven, 1}, {impl.NearAway, 2}, {impl.ToZero, 3}, {impl.ToUp, 4}, {impl.ToDown, 5},
		{impl.FlagInexact, 1}, {impl.FlagUnder, 2}, {impl.FlagOver, 4}, {impl.FlagByZero, 8}, {impl.FlagBad, 16},
		{impl.KindZero, 0}, {impl.KindFinite, 1}, {impl.KindInf, 2}, {impl.KindNan, 3}, {impl.KindNone, 4},
		{impl.MaxExp, 5000},
	} {
		if c[0] != c[1] {
			t.Errorf("constant %d is %d, not %d", i, c[0], c[1])
		}
	}
}

// A five has what NearEven, NearAway, ToZero, ToUp and ToDown answer.
type five [5]uint64

func all5(x uint64) five { return five{x, x, x, x, x} }

// each holds one operation of the form Half in each mode against five bits, and the same flags.
func each(t *testing.T, name string, want five, flags int, op func(mode int) (uint64, int)) {
	t.Helper()
	for i, mode := range formModes {
		if x, f := op(mode); x != want[i] || f != flags {
			t.Errorf("%s mode %d: %#x flags %d, not %#x flags %d", name, mode, x, f, want[i], flags)
		}
	}
}

func TestFormPackHalves(t *testing.T) {
	for _, c := range []struct {
		name  string
		n     impl.Num
		want  five
		flags int
	}{
		{"1 and half a step", impl.Num{Kind: impl.KindFinite, Exp: -11, Man: 2049}, five{halfOne, halfOneUp, halfOne, halfOneUp, halfOne}, inexact},
		{"-1 and half a step", impl.Num{Kind: impl.KindFinite, Neg: true, Exp: -11, Man: 2049}, five{0xBC00, 0xBC01, 0xBC00, 0xBC00, 0xBC01}, inexact},
		{"half a step behind an odd one", impl.Num{Kind: impl.KindFinite, Exp: -11, Man: 2051}, five{0x3C02, 0x3C02, 0x3C01, 0x3C02, 0x3C01}, inexact},
		{"just below half a step", impl.Num{Kind: impl.KindFinite, Exp: -62, Man: 1<<62 + 1<<51 - 1}, five{halfOne, halfOne, halfOne, halfOneUp, halfOne}, inexact},
		{"just above half a step", impl.Num{Kind: impl.KindFinite, Exp: -62, Man: 1<<62 + 1<<51 + 1}, five{halfOneUp, halfOneUp, halfOne, halfOneUp, halfOne}, inexact},
		{"an even Man", impl.Num{Kind: impl.KindFinite, Exp: -4, Man: 48}, all5(halfThree), noFlags},
		{"all 64 bits", impl.Num{Kind: impl.KindFinite, Exp: -63, Man: 1<<64 - 1}, five{halfTwo, halfTwo, 0x3FFF, halfTwo, 0x3FFF}, inexact},
		{"half the least", impl.Num{Kind: impl.KindFinite, Exp: -25, Man: 1}, five{0, halfLeast, 0, halfLeast, 0}, inexactUnder},
		{"minus half the least", impl.Num{Kind: impl.KindFinite, Neg: true, Exp: -25, Man: 1}, five{0x8000, 0x8001, 0x8000, 0x8000, 0x8001}, inexactUnder},
		{"one and a half of the least", impl.Num{Kind: impl.KindFinite, Exp: -25, Man: 3}, five{2, 2, 1, 2, 1}, inexactUnder},
		{"least of all", impl.Num{Kind: impl.KindFinite, Exp: -impl.MaxExp, Man: 1}, five{0, 0, 0, 1, 0}, inexactUnder},
		{"minus the least of all", impl.Num{Kind: impl.KindFinite, Neg: true, Exp: -impl.MaxExp, Man: 1}, five{0x8000, 0x8000, 0x8000, 0x8000, 0x8001}, inexactUnder},
		{"below normal, exact", impl.Num{Kind: impl.KindFinite, Exp: -24, Man: 1023}, all5(halfBelow), noFlags},
		{"below normal, and up to normal", impl.Num{Kind: impl.KindFinite, Exp: -25, Man: 2047}, five{halfNormal, halfNormal, halfBelow, halfNormal, halfBelow}, inexactUnder},
		{"normal, exact", impl.Num{Kind: impl.KindFinite, Exp: -14, Man: 1}, all5(halfNormal), noFlags},
		{"just above normal", impl.Num{Kind: impl.KindFinite, Exp: -25, Man: 2049}, five{halfNormal, halfNormal + 1, halfNormal, halfNormal + 1, halfNormal}, inexact},
		{"the greatest", impl.Num{Kind: impl.KindFinite, Exp: 5, Man: 2047}, all5(halfGreatest), noFlags},
	} {
		each(t, c.name, c.want, c.flags, func(mode int) (uint64, int) { return impl.Pack(impl.Half, mode, c.n) })
	}
}

// Between the greatest number and 2^(E+1) it is the rounding that decides what overflows.
func TestFormPackOverflow(t *testing.T) {
	up := []int{impl.NearEven, impl.NearAway, impl.ToUp}
	for _, c := range []struct {
		name string
		n    impl.Num
		bits []uint64
		over []int
	}{
		{"below half", impl.Num{Kind: impl.KindFinite, Exp: 3, Man: 8189}, []uint64{halfGreatest, halfGreatest, halfGreatest, halfInf, halfGreatest}, []int{impl.ToUp}},
		{"half", impl.Num{Kind: impl.KindFinite, Exp: 4, Man: 4095}, []uint64{halfInf, halfInf, halfGreatest, halfInf, halfGreatest}, up},
		{"above half", impl.Num{Kind: impl.KindFinite, Exp: 3, Man: 8191}, []uint64{halfInf, halfInf, halfGreatest, halfInf, halfGreatest}, up},
		{"2^(E+1)", impl.Num{Kind: impl.KindFinite, Exp: 16, Man: 1}, []uint64{halfInf, halfInf, halfGreatest, halfInf, halfGreatest}, formModes},
		{"all 64 bits at MaxExp", impl.Num{Kind: impl.KindFinite, Exp: impl.MaxExp, Man: 1<<64 - 1}, []uint64{halfInf, halfInf, halfGreatest, halfInf, halfGreatest}, formModes},
	} {
		for i, mode := range formModes {
			flags := inexact
			for _, m := range c.over {
				if m == mode {
					flags = inexactOver
				}
			}
			if x, f := impl.Pack(impl.Half, mode, c.n); x != c.bits[i] || f != flags {
				t.Errorf("%s mode %d: %#x flags %d, not %#x flags %d", c.name, mode, x, f, c.bits[i], flags)
			}
			c.n.Neg = true
			turned := []int{0, impl.NearEven, impl.NearAway, impl.ToZero, impl.ToDown, impl.ToUp}[mode]
			if x, f := impl.Pack(impl.Half, turned, c.n); x != c.bits[i]|halfMinus || f != flags {
				t.Errorf("minus %s mode %d: %#x flags %d, not %#x flags %d", c.name, turned, x, f, c.bits[i]|halfMinus, flags)
			}
			c.n.Neg = false
		}
	}
}

func TestFormPackOtherKinds(t *testing.T) {
	for _, c := range []struct {
		n    impl.Num
		want uint64
	}{
		{impl.Num{}, 0},
		{impl.Num{Neg: true}, halfMinus},
		{impl.Num{Neg: true, Exp: impl.MaxExp + 1, Man: 77}, halfMinus},
		{impl.Num{Kind: impl.KindInf}, halfInf},
		{impl.Num{Kind: impl.KindInf, Neg: true}, halfMinusInf},
		{impl.Num{Kind: impl.KindInf, Exp: -impl.MaxExp - 1, Man: 77}, halfInf},
		{impl.Num{Kind: impl.KindNan}, halfQuiet},
		{impl.Num{Kind: impl.KindNan, Neg: true, Exp: impl.MaxExp + 1, Man: 77}, halfQuiet},
	} {
		each(t, "other kind", all5(c.want), noFlags, func(mode int) (uint64, int) { return impl.Pack(impl.Half, mode, c.n) })
	}
}

func TestFormFlagsOfOperations(t *testing.T) {
	type triple [3]uint64
	for _, c := range []struct {
		op    int
		of    triple
		want  five
		flags int
	}{
		{0, triple{halfOne, halfOne}, all5(halfTwo), noFlags},
		{0, triple{halfOne, halfHalfUlp}, five{halfOne, halfOneUp, halfOne, halfOneUp, halfOne}, inexact},
		{0, triple{halfBelow, halfLeast}, all5(halfNormal), noFlags},
		{0, triple{halfLeast, halfLeast}, all5(2), noFlags},
		{0, triple{halfOne, halfMinusOne}, five{0, 0, 0, 0, halfMinus}, noFlags},
		{0, triple{0, halfMinus}, five{0, 0, 0, 0, halfMinus}, noFlags},
		{0, triple{halfMinus, halfMinus}, all5(halfMinus), noFlags},
		{0, triple{0, 0}, all5(0), noFlags},
		{0, triple{0, halfMinusOne}, all5(halfMinusOne), noFlags},
		{0, triple{halfInf, halfMinusInf}, all5(halfQuiet), impl.FlagBad},
		{0, triple{halfInf, halfInf}, all5(halfInf), noFlags},
		{0, triple{halfInf, halfMinusMost}, all5(halfInf), noFlags},
		{0, triple{halfQuiet, halfMinusInf}, all5(halfQuiet), noFlags},
		{0, triple{halfOne, halfSignal}, all5(halfQuiet), impl.FlagBad},
		{0, triple{halfSignal | halfMinus, halfQuiet}, all5(halfQuiet), impl.FlagBad},
		{0, triple{halfOne, halfQuiet | halfMinus | 5}, all5(halfQuiet), noFlags},
		{1, triple{halfOne, halfOne}, five{0, 0, 0, 0, halfMinus}, noFlags},
		{1, triple{0, 0}, five{0, 0, 0, 0, halfMinus}, noFlags},
		{1, triple{halfMinus, 0}, all5(halfMinus), noFlags},
		{1, triple{halfInf, halfInf}, all5(halfQuiet), impl.FlagBad},
		{1, triple{halfInf, halfMinusInf}, all5(halfInf), noFlags},
		{1, triple{halfThree, halfOne}, all5(halfTwo), noFlags},
		{1, triple{halfOne, halfSignal}, all5(halfQuiet), impl.FlagBad},
		{2, triple{halfNormal, halfHalf}, all5(halfNormal / 2), noFlags},
		{2, triple{halfLeast, halfHalf}, five{0, 1, 0, 1, 0}, inexactUnder},
		{2, triple{halfLeast, halfHalf | halfMinus}, five{0x8000, 0x8001, 0x8000, 0x8000, 0x8001}, inexactUnder},
		{2, triple{0, halfMinusOne}, all5(halfMinus), noFlags},
		{2, triple{halfInf, halfMinusOne}, all5(halfMinusInf), noFlags},
		{2, triple{0, halfInf}, all5(halfQuiet), impl.FlagBad},
		{2, triple{halfMinusInf, halfMinus}, all5(halfQuiet), impl.FlagBad},
		{2, triple{halfQuiet, 0}, all5(halfQuiet), noFlags},
		{2, triple{halfGreatest, halfTwo}, five{halfInf, halfInf, halfGreatest, halfInf, halfGreatest}, inexactOver},
		{3, triple{halfOne, halfThree}, five{0x3555, 0x3555, 0x3555, 0x3556, 0x3555}, inexact},
		{3, triple{halfThree, halfThree}, all5(halfOne), noFlags},
		{3, triple{halfOne, halfMinus}, all5(halfMinusInf), impl.FlagByZero},
		{3, triple{halfMinusOne, halfMinus}, all5(halfInf), impl.FlagByZero},
		{3, triple{halfLeast, 0}, all5(halfInf), impl.FlagByZero},
		{3, triple{halfInf, 0}, all5(halfInf), noFlags},
		{3, triple{halfInf, halfMinus}, all5(halfMinusInf), noFlags},
		{3, triple{0, halfMinus}, all5(halfQuiet), impl.FlagBad},
		{3, triple{halfInf, halfMinusInf}, all5(halfQuiet), impl.FlagBad},
		{3, triple{halfMinusOne, halfInf}, all5(halfMinus), noFlags},
		{3, triple{0, halfMinusInf}, all5(halfMinus), noFlags},
		{3, triple{halfMinus, halfOne}, all5(halfMinus), noFlags},
		{3, triple{halfQuiet, 0}, all5(halfQuiet), noFlags},
		{3, triple{halfLeast, halfTwo}, five{0, 1, 0, 1, 0}, inexactUnder},
		// (1 + u)^2 - 1 is 2u + u^2, with u = 2^-10: half a step above 2u.
		{4, triple{halfOneUp, halfOneUp, halfMinusOne}, five{0x1800, 0x1801, 0x1800, 0x1801, 0x1800}, inexact},
		{4, triple{halfInf, 0, halfOne}, all5(halfQuiet), impl.FlagBad},
		{4, triple{halfInf, 0, halfQuiet}, all5(halfQuiet), noFlags},
		{4, triple{0, halfInf, halfSignal}, all5(halfQuiet), impl.FlagBad},
		{4, triple{0, halfInf, halfInf}, all5(halfQuiet), impl.FlagBad},
		{4, triple{halfInf, halfOne, halfMinusInf}, all5(halfQuiet), impl.FlagBad},
		{4, triple{halfInf, halfMinusOne, halfMinusInf}, all5(halfMinusInf), noFlags},
		{4, triple{halfGreatest, halfGreatest, halfMinusInf}, all5(halfMinusInf), noFlags},
		{4, triple{halfOne, halfOne, halfMinusOne}, five{0, 0, 0, 0, halfMinus}, noFlags},
		{4, triple{halfMinusOne, 0, halfMinus}, all5(halfMinus), noFlags},
		{4, triple{halfMinusOne, 0, 0}, five{0, 0, 0, 0, halfMinus}, noFlags},
		{4, triple{halfMinusOne, 0, halfLeast}, all5(halfLeast), noFlags},
		{4, triple{halfGreatest, halfTwo, halfMinusMost}, all5(halfGreatest), noFlags},
		{4, triple{halfLeast, halfLeast, halfOne}, five{halfOne, halfOne, halfOne, halfOneUp, halfOne}, inexact},
		{4, triple{halfLeast, halfLeast | halfMinus, halfOne}, five{halfOne, halfOne, halfOne - 1, halfOne, halfOne - 1}, inexact},
		{4, triple{halfLeast, halfLeast, 0}, five{0, 0, 0, 1, 0}, inexactUnder},
		{4, triple{halfLeast, halfLeast | halfMinus, halfNormal}, five{halfNormal, halfNormal, halfBelow, halfNormal, halfBelow}, inexactUnder},
		{5, triple{0x4400}, all5(halfTwo), noFlags},
		{5, triple{halfTwo}, five{0x3DA8, 0x3DA8, 0x3DA8, 0x3DA9, 0x3DA8}, inexact},
		{5, triple{halfLeast}, all5(0x0C00), noFlags},
		{5, triple{halfMinus}, all5(halfMinus), noFlags},
		{5, triple{0}, all5(0), noFlags},
		{5, triple{halfInf}, all5(halfInf), noFlags},
		{5, triple{halfMinusInf}, all5(halfQuiet), impl.FlagBad},
		{5, triple{halfLeast | halfMinus}, all5(halfQuiet), impl.FlagBad},
		{5, triple{halfQuiet | halfMinus}, all5(halfQuiet), noFlags},
		{5, triple{halfSignal}, all5(halfQuiet), impl.FlagBad},
	} {
		o := formOps[c.op]
		each(t, o.name, c.want, c.flags, func(mode int) (uint64, int) {
			return o.op(impl.Half, mode, c.of[0], c.of[1], c.of[2])
		})
	}
}

// A sum that overflows by the rounding of its halves alone.
func TestFormSumAtTheGreatest(t *testing.T) {
	for i, want := range []struct {
		bits  uint64
		flags int
	}{{halfInf, inexactOver}, {halfInf, inexactOver}, {halfGreatest, inexact}, {halfInf, inexactOver}, {halfGreatest, inexact}} {
		if x, f := impl.Add(impl.Half, formModes[i], halfGreatest, halfSixteen); x != want.bits || f != want.flags {
			t.Errorf("half a step, mode %d: %#x flags %d", formModes[i], x, f)
		}
	}
	for i, want := range []struct {
		bits  uint64
		flags int
	}{{halfGreatest, inexact}, {halfGreatest, inexact}, {halfGreatest, inexact}, {halfInf, inexactOver}, {halfGreatest, inexact}} {
		if x, f := impl.Add(impl.Half, formModes[i], halfGreatest, halfLessThan); x != want.bits || f != want.flags {
			t.Errorf("below half a step, mode %d: %#x flags %d", formModes[i], x, f)
		}
	}
}

func TestFormConvertOfSome(t *testing.T) {
	for _, c := range []struct {
		from, to int
		of       uint64
		want     five
		flags    int
	}{
		{impl.Half, impl.Double, halfOne, all5(0x3FF0000000000000), noFlags},
		{impl.Half, impl.Single, halfLeast, all5(0x33800000), noFlags},
		{impl.Half, impl.Double, halfMinus, all5(1 << 63), noFlags},
		{impl.Single, impl.Half, 0xFF800000, all5(halfMinusInf), noFlags},
		{impl.Single, impl.Half, 0xFFC00001, all5(halfQuiet), noFlags},
		{impl.Single, impl.Half, 0x7F800001, all5(halfQuiet), impl.FlagBad},
		{impl.Half, impl.Half, halfSignal, all5(halfQuiet), impl.FlagBad},
		{impl.Double, impl.Single, 1, five{0, 0, 0, 1, 0}, inexactUnder},
		{impl.Double, impl.Single, 0x3FF0000010000000, five{0x3F800000, 0x3F800001, 0x3F800000, 0x3F800001, 0x3F800000}, inexact},
		{impl.Double, impl.Half, 0x7FEFFFFFFFFFFFFF, five{halfInf, halfInf, halfGreatest, halfInf, halfGreatest}, inexactOver},
		{impl.Double, impl.Half, 0xFFEFFFFFFFFFFFFF, five{halfMinusInf, halfMinusInf, halfMinusMost, halfMinusMost, halfMinusInf}, inexactOver},
	} {
		each(t, "Convert", c.want, c.flags, func(mode int) (uint64, int) { return impl.Convert(c.from, c.to, mode, c.of) })
	}
}
