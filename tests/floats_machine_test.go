package tests

import (
	"math"
	"testing"

	"loop.example/g00043/impl"
)

// Promise 4: the machine's float64 do what chapter 1 does; bits come back from their float64.

type machineOp struct {
	name    string
	machine func(x, y float64) float64
	form    func(form, mode int, a, b uint64) (uint64, int)
}

var machineOps = []machineOp{
	{"sum", func(x, y float64) float64 { return x + y }, impl.Add},
	{"difference", func(x, y float64) float64 { return x - y }, impl.Sub},
	{"product", func(x, y float64) float64 { return x * y }, impl.Mul},
	{"quotient", func(x, y float64) float64 { return x / y }, impl.Div},
}

func machineAgrees(t *testing.T, a, b uint64) {
	t.Helper()
	x, y := impl.FromBits(a), impl.FromBits(b)
	for _, o := range machineOps {
		want, _ := o.form(impl.Double, impl.NearEven, a, b)
		if got := impl.ToBits(o.machine(x, y)); got != want {
			t.Errorf("%s of %x and %x: the machine %x, the form %x", o.name, a, b, got, want)
		}
	}
}

func TestFloatMachineAtEdges(t *testing.T) {
	for _, a := range double.edges() {
		for _, b := range double.edges() {
			machineAgrees(t, a, b)
		}
	}
}

func TestFloatMachineOfMany(t *testing.T) {
	g := formSource(301)
	for range 60000 {
		machineAgrees(t, g.bits(double), g.bits(double))
	}
	for _, k := range floatKinds {
		for range 4000 {
			machineAgrees(t, bitsOf(k.one(&g)), bitsOf(k.one(&g)))
		}
	}
}

// Products and quotients that come out just at, above and below the least numbers and the greatest.
func TestFloatMachineAtTheEnds(t *testing.T) {
	g := formSource(302)
	for range 20000 {
		fraction, other := g.next()>>12, g.next()>>12
		low := g.next() % 1024
		for _, ends := range []uint64{1022, 1023, 1024, 2046 + 1022, 2046 + 1023, 1023 - 52, 1023 - 53} {
			if high := ends - low; high < 2047 {
				machineAgrees(t, low<<52|fraction, high<<52|other)
			}
		}
		// a quotient near the ends is a product with a turned exponent
		machineAgrees(t, low<<52|fraction, (1023+low)<<52|other)
		machineAgrees(t, (1023+low)<<52|fraction, (low+1)<<52|other)
	}
}

func TestFloatBitsOfSome(t *testing.T) {
	for _, c := range []struct {
		bits uint64
		x    float64
	}{
		{0, 0},
		{0x3FF0000000000000, 1},
		{0xBFF0000000000000, -1},
		{0x3FF8000000000000, 1.5},
		{0xC002000000000000, -2.25},
		{0x3FB999999999999A, 0.1},
		{1, math.SmallestNonzeroFloat64},
		{0x8000000000000001, -math.SmallestNonzeroFloat64},
		{0x000FFFFFFFFFFFFF, 0x1p-1022 - 0x1p-1074},
		{0x0010000000000000, 0x1p-1022},
		{0x7FEFFFFFFFFFFFFF, math.MaxFloat64},
		{0xFFEFFFFFFFFFFFFF, -math.MaxFloat64},
		{0x7FF0000000000000, math.Inf(1)},
		{0xFFF0000000000000, math.Inf(-1)},
	} {
		if got := impl.FromBits(c.bits); got != c.x {
			t.Errorf("%x is %v, not %v", c.bits, got, c.x)
		}
		if got := impl.ToBits(c.x); got != c.bits {
			t.Errorf("%v has the bits %x, not %x", c.x, got, c.bits)
		}
	}
	minus := impl.FromBits(0x8000000000000000)
	if minus != 0 || 1/minus != math.Inf(-1) || impl.ToBits(minus) != 0x8000000000000000 || 1/impl.FromBits(0) != math.Inf(1) {
		t.Error("0 and -0 are not told apart")
	}
}

// The plain NaN comes out of each NaN, of each sign, quiet and signalling, one way and the other.
func TestFloatBitsOfNans(t *testing.T) {
	nans := []uint64{
		0x7FF0000000000001, 0x7FF7FFFFFFFFFFFF, 0x7FF8000000000000, 0x7FF8000000000001, 0x7FFFFFFFFFFFFFFF,
		0xFFF0000000000001, 0xFFF7FFFFFFFFFFFF, 0xFFF8000000000000, 0xFFF8000000000001, 0xFFFFFFFFFFFFFFFF,
	}
	g := formSource(303)
	for range 2000 {
		nans = append(nans, g.next()|0x7FF0000000000000|1<<(g.next()%52))
	}
	for _, bits := range nans {
		if x := impl.FromBits(bits); math.Float64bits(x) != 0x7FF8000000000000 {
			t.Errorf("%x becomes %x", bits, math.Float64bits(x))
		}
		if got := impl.ToBits(math.Float64frombits(bits)); got != 0x7FF8000000000000 {
			t.Errorf("the NaN %x has the bits %x", bits, got)
		}
	}
}

func TestFloatBitsComeBack(t *testing.T) {
	manyBits(304, 50000, func(s formShape, bits uint64) {
		if s.form != impl.Double {
			return
		}
		want := bits
		if s.isNan(bits) {
			want = s.plain()
		}
		x := impl.FromBits(bits)
		if got := impl.ToBits(x); got != want {
			t.Errorf("%x comes back as %x", bits, got)
		}
		if s.isFinite(bits) && exactOf(x).Cmp(s.value(bits)) != 0 {
			t.Errorf("%x is not the number %v", bits, x)
		}
	})
}
