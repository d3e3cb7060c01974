package tests

import (
	"math"
	"testing"

	"loop.example/g00043/impl"
)

var (
	wrongForms = []int{math.MinInt, -1, 0, 4, 5, 64, math.MaxInt}
	wrongModes = []int{math.MinInt, -1, 0, 6, 7, math.MaxInt}
	wrongKinds = []int{math.MinInt, -1, impl.KindNone, 5, math.MaxInt}
)

// wrongBits are none of the form (Double takes each uint64).
func wrongBits(s formShape) []uint64 {
	if s.form == impl.Double {
		return nil
	}
	return []uint64{1 << s.width, 1<<s.width + 1, 1<<s.width | s.plain(), 1<<s.width | s.infinity() + 1, 1 << 63, math.MaxUint64}
}

// refused holds bits and flags against the fixed answer to what is wrong.
func refused(t *testing.T, what string, bits uint64, flags int) {
	t.Helper()
	if bits != 0 || flags != 0 {
		t.Errorf("%s: %#x flags %d", what, bits, flags)
	}
}

func TestFormUnpackRefuses(t *testing.T) {
	none := impl.Num{Kind: impl.KindNone}
	for _, form := range wrongForms {
		for _, x := range []uint64{0, 1, 0x7E00, math.MaxUint64} {
			if n := impl.Unpack(form, x); n != none {
				t.Errorf("form %d: %v", form, n)
			}
		}
	}
	for _, s := range formShapes {
		if n := impl.Unpack(s.form, s.all()); n.Kind != impl.KindNan {
			t.Errorf("form %d: the last bits are %v", s.form, n)
		}
		for _, x := range wrongBits(s) {
			if n := impl.Unpack(s.form, x); n != none {
				t.Errorf("form %d: %x is %v", s.form, x, n)
			}
		}
	}
}

func TestFormPackRefuses(t *testing.T) {
	one := impl.Num{Kind: impl.KindFinite, Neg: true, Man: 1}
	for _, n := range []impl.Num{one, {Neg: true}, {Kind: impl.KindInf}, {Kind: impl.KindNan}} {
		for _, form := range wrongForms {
			x, f := impl.Pack(form, impl.NearEven, n)
			refused(t, "form", x, f)
		}
		for _, mode := range wrongModes {
			x, f := impl.Pack(impl.Single, mode, n)
			refused(t, "mode", x, f)
		}
	}
	for _, s := range formShapes {
		for _, mode := range formModes {
			for _, kind := range wrongKinds {
				x, f := impl.Pack(s.form, mode, impl.Num{Kind: kind, Neg: true, Man: 1})
				refused(t, "kind", x, f)
			}
			for _, n := range []impl.Num{
				{Kind: impl.KindFinite},
				{Kind: impl.KindFinite, Neg: true, Exp: 3},
				{Kind: impl.KindFinite, Neg: true, Exp: impl.MaxExp + 1, Man: 1},
				{Kind: impl.KindFinite, Neg: true, Exp: -impl.MaxExp - 1, Man: 1},
				{Kind: impl.KindFinite, Neg: true, Exp: math.MaxInt, Man: 1},
				{Kind: impl.KindFinite, Neg: true, Exp: math.MinInt, Man: math.MaxUint64},
			} {
				x, f := impl.Pack(s.form, mode, n)
				refused(t, "finite", x, f)
			}
			if _, f := impl.Pack(s.form, mode, impl.Num{Kind: impl.KindFinite, Exp: impl.MaxExp, Man: 1}); f != inexactOver {
				t.Errorf("form %d mode %d: MaxExp is refused", s.form, mode)
			}
			if _, f := impl.Pack(s.form, mode, impl.Num{Kind: impl.KindFinite, Exp: -impl.MaxExp, Man: 1}); f != inexactUnder {
				t.Errorf("form %d mode %d: -MaxExp is refused", s.form, mode)
			}
		}
	}
}

func TestFormOperationsRefuse(t *testing.T) {
	for _, o := range formOps {
		for _, x := range []uint64{0x3C00, 0x7C01, 0x7E00} {
			for _, form := range wrongForms {
				bits, flags := o.op(form, impl.NearEven, x, x, x)
				refused(t, o.name+" form", bits, flags)
			}
			for _, mode := range wrongModes {
				bits, flags := o.op(impl.Half, mode, x, x, x)
				refused(t, o.name+" mode", bits, flags)
			}
		}
		for _, s := range formShapes {
			for _, x := range wrongBits(s) {
				for _, other := range []uint64{s.one(), s.plain(), s.infinity() + 1} {
					for place := range map[string]int{"Add": 2, "Sub": 2, "Mul": 2, "Div": 2, "Fma": 3, "Sqrt": 1}[o.name] {
						list := []uint64{other, other, other}
						list[place] = x
						bits, flags := o.op(s.form, impl.ToUp, list[0], list[1], list[2])
						refused(t, o.name+" bits", bits, flags)
					}
				}
			}
		}
	}
}

func TestFormConvertRefuses(t *testing.T) {
	for _, x := range []uint64{0x3C00, 0x7C01, 0x7E00} {
		for _, form := range wrongForms {
			bits, flags := impl.Convert(form, impl.Double, impl.NearEven, x)
			refused(t, "from", bits, flags)
			bits, flags = impl.Convert(impl.Half, form, impl.NearEven, x)
			refused(t, "to", bits, flags)
		}
		for _, mode := range wrongModes {
			bits, flags := impl.Convert(impl.Half, impl.Double, mode, x)
			refused(t, "mode", bits, flags)
		}
	}
	for _, s := range formShapes {
		for _, x := range wrongBits(s) {
			bits, flags := impl.Convert(s.form, impl.Double, impl.ToUp, x)
			refused(t, "bits", bits, flags)
		}
	}
}

func TestFormOrdersRefuse(t *testing.T) {
	for _, form := range wrongForms {
		if impl.Compare(form, 0, 0) != 2 || impl.Order(form, 0, 0) != 2 || impl.Next(form, 0) != 0 || impl.Next(form, 0x7E00) != 0 {
			t.Errorf("form %d is taken", form)
		}
	}
	for _, s := range formShapes {
		for _, x := range wrongBits(s) {
			for _, y := range []uint64{0, s.one(), s.plain(), x} {
				if impl.Compare(s.form, x, y) != 2 || impl.Compare(s.form, y, x) != 2 {
					t.Errorf("form %d: %x is compared with %x", s.form, x, y)
				}
				if impl.Order(s.form, x, y) != 2 || impl.Order(s.form, y, x) != 2 {
					t.Errorf("form %d: %x is ordered with %x", s.form, x, y)
				}
			}
			if impl.Next(s.form, x) != 0 {
				t.Errorf("form %d: %x has a next one", s.form, x)
			}
		}
	}
}
