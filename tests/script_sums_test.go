package tests

import (
	"math"
	"testing"

	"loop.example/g00043/impl"
)

func addIs(t *testing.T, a, b, want impl.Qty, wantOk bool) {
	t.Helper()
	exchanged(t, "AddQty", impl.AddQty, a, b, want, wantOk)
	addHolds(t, a, b)
}

func mulIs(t *testing.T, a, b, want impl.Qty, wantOk bool) {
	t.Helper()
	exchanged(t, "MulQty", impl.MulQty, a, b, want, wantOk)
	mulHolds(t, a, b)
}

func TestAddQty(t *testing.T) {
	addIs(t, plain(1, 0), plain(2, 0), plain(3, 0), true)
	addIs(t, plain(15, -1), plain(25, -1), plain(4, 0), true)
	addIs(t, plain(15, -1), plain(5, -2), plain(155, -2), true)
	addIs(t, plain(5, 0), plain(5, 0), plain(1, 1), true)
	addIs(t, plain(7, 3), plain(-7, 3), plain(0, 0), true)
	addIs(t, impl.Qty{Num: 7, Pow: -30, Volt: 1, Sec: -9}, impl.Qty{Num: -7, Pow: -30, Volt: 1, Sec: -9}, impl.Qty{Volt: 1, Sec: -9}, true)
	addIs(t, plain(1, 30), plain(9, 30), impl.Qty{}, false)
	addIs(t, plain(1, 30), plain(8, 30), plain(9, 30), true)
}

func TestAddQtyOfUnits(t *testing.T) {
	volt, second := impl.Qty{Num: 3, Volt: 1}, impl.Qty{Num: 3, Sec: 1}
	addIs(t, volt, second, impl.Qty{}, false)
	addIs(t, volt, plain(3, 0), impl.Qty{}, false)
	addIs(t, volt, impl.Qty{Num: 3, Volt: 2}, impl.Qty{}, false)
	addIs(t, volt, impl.Qty{Num: 3, Volt: 1, Sec: 1}, impl.Qty{}, false)
	addIs(t, volt, impl.Qty{Num: 3, Volt: -1}, impl.Qty{}, false)
	addIs(t, volt, impl.Qty{}, impl.Qty{}, false)
	addIs(t, volt, impl.Qty{Sec: 1}, impl.Qty{}, false)
	addIs(t, volt, impl.Qty{Volt: 1}, volt, true)
	addIs(t, impl.Qty{Volt: 1}, impl.Qty{Sec: 1}, impl.Qty{}, false)
	addIs(t, impl.Qty{Volt: 1, Sec: 2}, impl.Qty{Volt: 1, Sec: 2}, impl.Qty{Volt: 1, Sec: 2}, true)
}

func TestAddQtyOfPowers(t *testing.T) {
	for low := -30; low <= 30; low++ {
		for high := low; high <= 30; high++ {
			apart := high - low
			want, ok := impl.Qty{}, false
			if apart < 9 {
				want, ok = plain(int(math.Pow10(apart))+1, low), true
			}
			if apart == 0 {
				want = plain(2, low)
			}
			addIs(t, plain(1, low), plain(1, high), want, ok)
			addIs(t, plain(0, 0), plain(7, high), plain(7, high), true)
		}
	}
	// Nine apart: right only where what is added takes it below MaxSample, or leaves noughts.
	addIs(t, plain(-1, 0), plain(1, 9), plain(999999999, 0), true)
	addIs(t, plain(-1, 1), plain(1, 10), plain(999999999, 1), true)
	addIs(t, plain(999999999, 0), plain(1, 0), plain(1, 9), true)
	addIs(t, plain(-1, 0), plain(1, 10), impl.Qty{}, false)
	addIs(t, plain(-999999999, -30), plain(1, -21), plain(1, -30), true)
	addIs(t, plain(-999999999, -30), plain(1, -20), impl.Qty{}, false)
	addIs(t, plain(1, -30), plain(1, 30), impl.Qty{}, false)
}

// So far apart that a word of the machine would have nothing but noughts left of the greater one.
func TestAddQtyOfPowersFarApart(t *testing.T) {
	for apart := 10; apart <= 60; apart++ {
		for twos := range 30 {
			addIs(t, plain(1<<twos, apart-30), plain(3, -30), impl.Qty{}, false)
			addIs(t, plain(-1<<twos, 30), plain(-3, 30-apart), impl.Qty{}, false)
		}
	}
}

func TestAddQtyBeyondMaxSample(t *testing.T) {
	addIs(t, plain(999999999, 0), plain(999999999, 0), impl.Qty{}, false)
	addIs(t, plain(999999995, 0), plain(999999995, 0), plain(199999999, 1), true)
	addIs(t, plain(999999999, 5), plain(2, 5), impl.Qty{}, false)
	addIs(t, plain(999999999, 5), plain(11, 5), plain(100000001, 6), true)
	addIs(t, plain(-999999999, 5), plain(-1, 5), plain(-1, 14), true)
	addIs(t, plain(-999999999, 0), plain(-999999999, 9), impl.Qty{}, false)
	addIs(t, plain(999999999, 22), plain(1, 22), impl.Qty{}, false)
	addIs(t, plain(999999999, 21), plain(1, 21), plain(1, 30), true)
}

func TestMulQty(t *testing.T) {
	mulIs(t, plain(3, 0), plain(-4, 0), plain(-12, 0), true)
	mulIs(t, plain(5, 1), plain(4, 1), plain(2, 3), true)
	mulIs(t, plain(15, -1), plain(2, 0), plain(3, 0), true)
	mulIs(t, plain(0, 0), plain(7, 30), plain(0, 0), true)
	mulIs(t, plain(0, 0), plain(0, 0), plain(0, 0), true)
	mulIs(t, impl.Qty{Num: 2, Volt: 1, Sec: -1}, impl.Qty{Num: 3, Volt: 2, Sec: 1}, impl.Qty{Num: 6, Volt: 3}, true)
	mulIs(t, impl.Qty{Volt: 1}, impl.Qty{Num: 3, Pow: -30, Sec: 1}, impl.Qty{Volt: 1, Sec: 1}, true)
}

func TestMulQtyOfPowers(t *testing.T) {
	mulIs(t, plain(1, 15), plain(3, 15), plain(3, 30), true)
	mulIs(t, plain(1, 15), plain(3, 16), impl.Qty{}, false)
	mulIs(t, plain(1, -30), plain(3, 0), plain(3, -30), true)
	mulIs(t, plain(1, -30), plain(3, -1), impl.Qty{}, false)
	mulIs(t, plain(2, -30), plain(5, -1), plain(1, -30), true)
	mulIs(t, plain(2, 30), plain(5, 0), impl.Qty{}, false)
	mulIs(t, plain(2, 30), plain(5, -1), plain(1, 30), true)
	mulIs(t, plain(1, 30), plain(1, -30), plain(1, 0), true)
	mulIs(t, plain(1, 30), plain(1, 30), impl.Qty{}, false)
	for a := -9; a <= 9; a++ {
		for b := -9; b <= 9; b++ {
			isRight := a+b >= -9 && a+b <= 9
			for _, num := range []int{0, 2} {
				volts, seconds := impl.Qty{Num: num * num, Volt: a + b}, impl.Qty{Num: num * num, Sec: a + b}
				if !isRight {
					volts, seconds = impl.Qty{}, impl.Qty{}
				}
				mulIs(t, impl.Qty{Num: num, Volt: a}, impl.Qty{Num: num, Volt: b}, volts, isRight)
				mulIs(t, impl.Qty{Num: num, Sec: a}, impl.Qty{Num: num, Sec: b}, seconds, isRight)
			}
		}
	}
}

func TestMulQtyBeyondMaxSample(t *testing.T) {
	mulIs(t, plain(262144, 0), plain(48828125, 0), plain(128, 11), true)
	mulIs(t, plain(536870912, 0), plain(1953125, 0), plain(1048576, 9), true)
	mulIs(t, plain(536870912, 12), plain(1953125, 12), impl.Qty{}, false)
	mulIs(t, plain(262144, 10), plain(48828125, 9), plain(128, 30), true)
	mulIs(t, plain(262144, 10), plain(48828125, 10), impl.Qty{}, false)
	mulIs(t, plain(999999999, 0), plain(999999999, 0), impl.Qty{}, false)
	mulIs(t, plain(-999999999, 0), plain(1, 0), plain(-999999999, 0), true)
	mulIs(t, plain(31623, 0), plain(31623, 0), impl.Qty{}, false)
	mulIs(t, plain(31622, 0), plain(31622, 0), plain(999950884, 0), true)
	mulIs(t, plain(262144, -30), plain(48828125, -11), plain(128, -30), true)
}

func TestSumsOfWrongQtys(t *testing.T) {
	wrong := []impl.Qty{
		{Num: 10}, {Num: -100, Pow: 3}, {Pow: 1}, {Pow: -3}, {Num: 1, Pow: 31}, {Num: 1, Pow: -31}, {Num: 1, Volt: 10}, {Num: 1, Sec: -10},
		{Num: maxSample}, {Num: -maxSample - 1}, {Num: math.MinInt}, {Num: math.MaxInt}, {Num: 1, Pow: math.MinInt}, {Num: 1, Pow: math.MaxInt},
		{Num: 1, Volt: math.MaxInt}, {Num: 1, Sec: math.MinInt},
	}
	for _, call := range []twoQtys{impl.AddQty, impl.MulQty} {
		for _, q := range wrong {
			for _, other := range append([]impl.Qty{{}, plain(1, 0), {Volt: q.Volt, Sec: q.Sec}, {Num: 1, Volt: -1, Sec: 1}}, wrong...) {
				exchanged(t, "what is made of a wrong quantity", call, q, other, impl.Qty{}, false)
			}
		}
	}
}

func TestSumsByChance(t *testing.T) {
	g := formSource(2041)
	for range 3000 {
		a, b := g.qty(1+g.below(9)), g.qty(1+g.below(9))
		mulHolds(t, a, b)
		addHolds(t, a, b)
		b.Volt, b.Sec = a.Volt, a.Sec
		addHolds(t, a, b)
		if b.Num != 0 {
			b.Pow = min(max(a.Pow+g.within(10), -30), 30)
		}
		addHolds(t, a, b)
		a.Volt, a.Sec, b.Pow = 0, 0, min(b.Pow, 0)
		mulHolds(t, a, b)
	}
}

// Sums that nearly are nought, and products of many twos and fives, have noughts at their ends.
func TestSumsWithNoughtsByChance(t *testing.T) {
	g := formSource(2042)
	for range 5000 {
		a := plain(g.within(99999999)*10+1, g.within(20))
		b := plain(-a.Num+g.within(3)*int(math.Pow10(g.below(9))), a.Pow)
		addHolds(t, a, b)
		two, five := 1<<g.below(29), int(math.Pow(5, float64(g.below(13))))
		mulHolds(t, plain(two, g.within(30)), plain(five, g.within(30)))
		mulHolds(t, plain(two*3, g.within(15)), plain(-five, g.within(15)))
	}
}
