package tests

import (
	"cmp"
	"slices"
	"testing"

	"loop.example/g00043/impl"
)

// ladder is all bits of the form Half in the chapter's order, written down from its words.
func ladder() []uint64 {
	var list []uint64
	for x := uint64(0xFFFF); x >= 0x8000; x-- {
		list = append(list, x)
	}
	for x := uint64(0); x < 0x8000; x++ {
		list = append(list, x)
	}
	return list
}

func TestFormOrderIsOneOrder(t *testing.T) {
	list := ladder()
	places := map[uint64]int{}
	for i, x := range list {
		places[x] = i
	}
	for i, x := range list {
		for _, j := range []int{0, i - 1, i, i + 1, (i * 7919) % len(list), len(list) - 1} {
			if j < 0 || j >= len(list) {
				continue
			}
			if got := impl.Order(impl.Half, x, list[j]); got != cmp.Compare(i, j) {
				t.Errorf("order of %x and %x: %d", x, list[j], got)
			}
		}
	}
	mixed := make([]uint64, 1<<16)
	for i := range mixed {
		mixed[i] = uint64(i)
	}
	slices.SortFunc(mixed, func(a, b uint64) int { return impl.Order(impl.Half, a, b) })
	if !slices.Equal(mixed, list) {
		t.Error("sorted by Order the bits are not in the chapter's order")
	}
}

func TestFormOrderAndCompareOfMany(t *testing.T) {
	manyTriples(21, 2000, func(s formShape, mode int, a, b, c uint64) {
		order := impl.Order(s.form, a, b)
		if order != -impl.Order(s.form, b, a) || (order == 0) != (a == b) {
			t.Errorf("form %d: order of %x and %x: %d", s.form, a, b, order)
		}
		if order <= 0 && impl.Order(s.form, b, c) <= 0 && impl.Order(s.form, a, c) > 0 {
			t.Errorf("form %d: %x, %x, %x are in no order", s.form, a, b, c)
		}
		want := 2
		if !s.isNan(a) && !s.isNan(b) {
			want = s.value(a).Cmp(s.value(b))
		}
		if got := impl.Compare(s.form, a, b); got != want {
			t.Errorf("form %d: %x against %x: %d, not %d", s.form, a, b, got, want)
		}
	})
}

func TestFormOrderOfSome(t *testing.T) {
	for _, s := range formShapes {
		rising := []uint64{
			s.all(), s.plain() | s.sign(), (s.infinity() + 1) | s.sign(), s.inf(true), s.inf(true) - 1, s.one() | s.sign(),
			s.normal() | s.sign(), (s.normal() - 1) | s.sign(), 1 | s.sign(), s.sign(),
			0, 1, s.normal() - 1, s.normal(), s.one(), s.infinity() - 1, s.infinity(), s.infinity() + 1, s.plain(), s.sign() - 1,
		}
		for i, a := range rising {
			for j, b := range rising {
				if got := impl.Order(s.form, a, b); got != cmp.Compare(i, j) {
					t.Errorf("form %d: order of %x and %x: %d", s.form, a, b, got)
				}
			}
		}
		if impl.Compare(s.form, 0, s.sign()) != 0 || impl.Compare(s.form, s.sign(), 0) != 0 || impl.Compare(s.form, s.sign(), 1) != -1 || impl.Compare(s.form, 0, 1|s.sign()) != 1 {
			t.Errorf("form %d: 0 and -0", s.form)
		}
		for _, nan := range []uint64{s.plain(), s.infinity() + 1, s.all()} {
			if impl.Compare(s.form, nan, nan) != 2 || impl.Compare(s.form, nan, 0) != 2 || impl.Compare(s.form, s.one(), nan) != 2 {
				t.Errorf("form %d: %x is compared", s.form, nan)
			}
		}
	}
}

func TestFormNextOfAllHalves(t *testing.T) {
	s := formShapes[0]
	list := ladder()
	for i, x := range list {
		want := uint64(0)
		switch {
		case s.isNan(x):
			want = s.plain()
		case x == s.infinity():
			want = x
		case x == s.sign():
			want = 1
		default:
			want = list[i+1]
		}
		if got := impl.Next(impl.Half, x); got != want {
			t.Errorf("next of %x: %x, not %x", x, got, want)
		}
	}
}

// Nothing stands between a number and the next one: not their middle, rounded into the form.
func TestFormNextOfMany(t *testing.T) {
	manyBits(22, 5000, func(s formShape, x uint64) {
		next := impl.Next(s.form, x)
		if s.isNan(x) || x == s.infinity() {
			if s.isNan(x) && next != s.plain() || !s.isNan(x) && next != x {
				t.Errorf("form %d: next of %x: %x", s.form, x, next)
			}
			return
		}
		if impl.Order(s.form, x, next) != -1 {
			t.Errorf("form %d: next of %x: %x", s.form, x, next)
		}
		if x == s.inf(true) || next == s.infinity() || next == s.sign() {
			return
		}
		half := s.one() - s.normal()
		scaled, _ := impl.Mul(s.form, impl.ToDown, x, half)
		if middle, _ := impl.Fma(s.form, impl.ToDown, next, half, scaled); impl.Compare(s.form, middle, x) > 0 {
			t.Errorf("form %d: between %x and %x is %x", s.form, x, next, middle)
		}
	})
}

func TestFormNextAtEdges(t *testing.T) {
	for _, s := range formShapes {
		for _, c := range [][2]uint64{
			{s.inf(true), s.inf(true) - 1},
			{s.infinity() - 1, s.infinity()},
			{s.infinity(), s.infinity()},
			{0, 1},
			{s.sign(), 1},
			{s.sign() + 1, s.sign()},
			{s.sign() + 2, s.sign() + 1},
			{s.normal() - 1, s.normal()},
			{s.normal() | s.sign(), (s.normal() - 1) | s.sign()},
			{s.one(), s.one() + 1},
			{s.one() | s.sign(), (s.one() - 1) | s.sign()},
			{s.plain(), s.plain()},
			{s.infinity() + 1, s.plain()},
			{s.all(), s.plain()},
		} {
			if got := impl.Next(s.form, c[0]); got != c[1] {
				t.Errorf("form %d: next of %x: %x, not %x", s.form, c[0], got, c[1])
			}
		}
	}
}

func TestFormConvertKeepsTheOrder(t *testing.T) {
	g := formSource(23)
	try := func(from, to formShape, mode int, a, b uint64) {
		if impl.Compare(from.form, a, b) == 1 {
			a, b = b, a
		}
		x, _ := impl.Convert(from.form, to.form, mode, a)
		y, _ := impl.Convert(from.form, to.form, mode, b)
		if impl.Compare(from.form, a, b) != 2 && impl.Compare(to.form, x, y) > 0 {
			t.Errorf("forms %d to %d mode %d: %x, %x become %x, %x", from.form, to.form, mode, a, b, x, y)
		}
	}
	for _, from := range formShapes {
		for _, to := range formShapes {
			for _, mode := range formModes {
				for _, a := range from.edges() {
					for _, b := range from.edges() {
						try(from, to, mode, a, b)
					}
				}
				for range 1000 {
					a := g.bits(from)
					try(from, to, mode, a, impl.Next(from.form, a))
					try(from, to, mode, a, g.bits(from))
				}
			}
		}
	}
}

// A greater form has all numbers of a lesser one, so that they come back from there.
func TestFormConvertThereAndBack(t *testing.T) {
	manyBits(24, 5000, func(s formShape, x uint64) {
		for to := s.form; to <= impl.Double; to++ {
			for _, mode := range formModes {
				y, f := impl.Convert(s.form, to, mode, x)
				z, h := impl.Convert(to, s.form, mode, y)
				want, flags := x, 0
				if s.isNan(x) {
					want = s.plain()
				}
				if s.isSignal(x) {
					flags = impl.FlagBad
				}
				if z != want || f != flags || h != 0 {
					t.Errorf("form %d to %d mode %d: %x becomes %x flags %d, and back %x flags %d", s.form, to, mode, x, y, f, z, h)
				}
			}
		}
	})
}
