package tests

import (
	"testing"

	"loop.example/g00043/impl"
)

// manyBits calls with all bits of the form Half, and many of the other two forms, edges among them.
func manyBits(seed uint64, count int, call func(s formShape, x uint64)) {
	g := formSource(seed)
	for _, s := range formShapes {
		if s.form == impl.Half {
			for x := uint64(0); x < 1<<16; x++ {
				call(s, x)
			}
			continue
		}
		for _, x := range s.edges() {
			call(s, x)
		}
		for range count {
			call(s, g.bits(s))
		}
	}
}

func TestFormPackOfUnpackIsTheBits(t *testing.T) {
	manyBits(11, 20000, func(s formShape, x uint64) {
		want := x
		if s.isNan(x) {
			want = s.plain()
		}
		for _, mode := range formModes {
			if got, flags := impl.Pack(s.form, mode, impl.Unpack(s.form, x)); got != want || flags != 0 {
				t.Errorf("form %d mode %d of %x: %x flags %d", s.form, mode, x, got, flags)
			}
		}
	})
}

func TestFormUnpackIsTheNumber(t *testing.T) {
	manyBits(12, 5000, func(s formShape, x uint64) {
		n := impl.Unpack(s.form, x)
		want := impl.Num{Neg: s.isNeg(x)}
		switch {
		case s.isNan(x):
			want = impl.Num{Kind: impl.KindNan}
		case s.isInf(x):
			want.Kind = impl.KindInf
		case !s.isZero(x):
			want.Kind, want.Exp, want.Man = impl.KindFinite, n.Exp, n.Man
			if n.Man%2 != 1 || timesPower(n.Man, n.Exp).Cmp(s.size(x&^s.sign())) != 0 {
				t.Errorf("form %d: %x is not %v", s.form, x, n)
			}
		}
		if n != want {
			t.Errorf("form %d: %x is %v, not %v", s.form, x, n, want)
		}
	})
}

func TestFormUnpackOfSome(t *testing.T) {
	for _, c := range []struct {
		form int
		bits uint64
		want impl.Num
	}{
		{impl.Half, 0x3C00, impl.Num{Kind: impl.KindFinite, Man: 1}},
		{impl.Half, 0xC200, impl.Num{Kind: impl.KindFinite, Neg: true, Man: 3}},
		{impl.Half, 0x0001, impl.Num{Kind: impl.KindFinite, Exp: -24, Man: 1}},
		{impl.Half, 0x03FF, impl.Num{Kind: impl.KindFinite, Exp: -24, Man: 1023}},
		{impl.Half, 0x0400, impl.Num{Kind: impl.KindFinite, Exp: -14, Man: 1}},
		{impl.Half, 0x7BFF, impl.Num{Kind: impl.KindFinite, Exp: 5, Man: 2047}},
		{impl.Single, 0x7F7FFFFF, impl.Num{Kind: impl.KindFinite, Exp: 104, Man: 1<<24 - 1}},
		{impl.Double, 1, impl.Num{Kind: impl.KindFinite, Exp: -1074, Man: 1}},
		{impl.Double, 0x8010000000000000, impl.Num{Kind: impl.KindFinite, Neg: true, Exp: -1022, Man: 1}},
		{impl.Double, 0x7FEFFFFFFFFFFFFF, impl.Num{Kind: impl.KindFinite, Exp: 971, Man: 1<<53 - 1}},
		{impl.Double, 0, impl.Num{}},
		{impl.Double, 1 << 63, impl.Num{Neg: true}},
		{impl.Double, 0xFFF0000000000000, impl.Num{Kind: impl.KindInf, Neg: true}},
		{impl.Double, 0xFFF0000000000001, impl.Num{Kind: impl.KindNan}},
		{impl.Single, 0xFFC00000, impl.Num{Kind: impl.KindNan}},
	} {
		if n := impl.Unpack(c.form, c.bits); n != c.want {
			t.Errorf("form %d: %x is %v, not %v", c.form, c.bits, n, c.want)
		}
	}
}

// manyTriples calls with edges and with many others, in each form and mode.
func manyTriples(seed uint64, count int, call func(s formShape, mode int, a, b, c uint64)) {
	g := formSource(seed)
	for _, s := range formShapes {
		for _, mode := range formModes {
			for _, a := range s.edges() {
				for _, b := range s.edges() {
					call(s, mode, a, b, g.bits(s))
				}
			}
			for range count {
				call(s, mode, g.bits(s), g.bits(s), g.bits(s))
			}
		}
	}
}

func TestFormSumsAndProductsMayBeExchanged(t *testing.T) {
	manyTriples(13, 5000, func(s formShape, mode int, a, b, c uint64) {
		x, f := impl.Add(s.form, mode, a, b)
		y, g := impl.Add(s.form, mode, b, a)
		if x != y || f != g {
			t.Errorf("form %d mode %d: sum of %x and %x: %x %d, %x %d", s.form, mode, a, b, x, f, y, g)
		}
		x, f = impl.Mul(s.form, mode, a, b)
		y, g = impl.Mul(s.form, mode, b, a)
		if x != y || f != g {
			t.Errorf("form %d mode %d: product of %x and %x: %x %d, %x %d", s.form, mode, a, b, x, f, y, g)
		}
		x, f = impl.Fma(s.form, mode, a, b, c)
		y, g = impl.Fma(s.form, mode, b, a, c)
		if x != y || f != g {
			t.Errorf("form %d mode %d: %x times %x plus %x: %x %d, %x %d", s.form, mode, a, b, c, x, f, y, g)
		}
	})
}

// formOps are all operations, as functions of three numbers.
var formOps = []struct {
	name string
	op   func(form, mode int, a, b, c uint64) (uint64, int)
}{
	{"Add", func(form, mode int, a, b, c uint64) (uint64, int) { return impl.Add(form, mode, a, b) }},
	{"Sub", func(form, mode int, a, b, c uint64) (uint64, int) { return impl.Sub(form, mode, a, b) }},
	{"Mul", func(form, mode int, a, b, c uint64) (uint64, int) { return impl.Mul(form, mode, a, b) }},
	{"Div", func(form, mode int, a, b, c uint64) (uint64, int) { return impl.Div(form, mode, a, b) }},
	{"Fma", impl.Fma},
	{"Sqrt", func(form, mode int, a, b, c uint64) (uint64, int) { return impl.Sqrt(form, mode, a) }},
}

// Between ToDown and ToUp there is at most one step, and each rounding is one of the two.
func TestFormRoundingsLieBetweenDownAndUp(t *testing.T) {
	manyTriples(14, 3000, func(s formShape, mode int, a, b, c uint64) {
		for _, o := range formOps {
			x, _ := o.op(s.form, mode, a, b, c)
			down, f := o.op(s.form, impl.ToDown, a, b, c)
			up, g := o.op(s.form, impl.ToUp, a, b, c)
			if s.isNan(x) || s.isNan(down) || s.isNan(up) {
				if x != s.plain() || down != x || up != x {
					t.Errorf("%s form %d mode %d of %x %x %x: %x, %x, %x", o.name, s.form, mode, a, b, c, down, x, up)
				}
				continue
			}
			if impl.Order(s.form, down, x) > 0 || impl.Order(s.form, x, up) > 0 {
				t.Errorf("%s form %d mode %d of %x %x %x: %x is not in %x .. %x", o.name, s.form, mode, a, b, c, x, down, up)
			}
			exact := f&impl.FlagInexact == 0
			if exact != (g&impl.FlagInexact == 0) || exact != (impl.Compare(s.form, down, up) == 0) {
				t.Errorf("%s form %d of %x %x %x: %x flags %d, %x flags %d", o.name, s.form, a, b, c, down, f, up, g)
			}
			if !exact && impl.Compare(s.form, impl.Next(s.form, down), up) != 0 {
				t.Errorf("%s form %d of %x %x %x: more than a step from %x to %x", o.name, s.form, a, b, c, down, up)
			}
		}
	})
}

func TestFormProductWithZeroAddedIsTheProduct(t *testing.T) {
	manyTriples(15, 5000, func(s formShape, mode int, a, b, c uint64) {
		want, flags := impl.Mul(s.form, mode, a, b)
		for _, zero := range []uint64{0, s.sign()} {
			got, f := impl.Fma(s.form, mode, a, b, zero)
			if s.isZero(want) && flags == 0 {
				got &^= s.sign()
				want &^= s.sign()
			}
			if got != want || f != flags {
				t.Errorf("form %d mode %d: %x times %x: %x %d, with %x added %x %d", s.form, mode, a, b, want, flags, zero, got, f)
			}
		}
	})
}
