package tests

import (
	"math"
	"testing"

	"loop.example/g00043/impl"
)

func roundDivHolds(t *testing.T, a, b int) {
	t.Helper()
	holdBig(t, "RoundDiv", impl.RoundDiv(a, b), nearestOf(bigOf(a), bigOf(b), false), a, b)
}

func TestFixedQuotientsByHand(t *testing.T) {
	for _, c := range []struct{ a, b, want int }{
		{0, 1, 0}, {0, 7, 0}, {0, impl.MaxBig, 0}, {7, 2, 4}, {-7, 2, -3}, {1, 2, 1}, {-1, 2, 0}, {3, 2, 2}, {-3, 2, -1},
		{5, 3, 2}, {-5, 3, -2}, {4, 3, 1}, {-4, 3, -1}, {1, 3, 0}, {-1, 3, 0}, {2, 3, 1}, {-2, 3, -1},
		{6, 4, 2}, {-6, 4, -1}, {5, 4, 1}, {-5, 4, -1}, {7, 4, 2}, {-7, 4, -2}, {-2, 4, 0}, {-10, 4, -2}, {10, 4, 3},
		{9, 9, 1}, {-9, 9, -1}, {12, 5, 2}, {13, 5, 3}, {-12, 5, -2}, {-13, 5, -3},
	} {
		if got := impl.RoundDiv(c.a, c.b); got != c.want {
			t.Errorf("RoundDiv of %d by %d is %d, not %d", c.a, c.b, got, c.want)
		}
	}
}

func TestFixedQuotientsAtTheEnds(t *testing.T) {
	const big = impl.MaxBig
	for _, c := range []struct{ a, b, want int }{
		{big, 1, big}, {-big, 1, -big}, {big, 2, big / 2}, {-big, 2, -big / 2}, {big - 1, 2, big / 2}, {1 - big, 2, 1 - big/2},
		{big, big, 1}, {-big, big, -1}, {big - 1, big, 1}, {1 - big, big, -1},
		{big / 2, big, 1}, {-big / 2, big, 0}, {big/2 - 1, big, 0}, {1 - big/2, big, 0}, {big/2 + 1, big, 1}, {-big/2 - 1, big, -1},
		{big, big - 1, 1}, {-big, big - 1, -1}, {big/2 - 1, big - 1, 0}, {big / 2, big - 1, 1}, {-big / 2, big - 1, -1},
		{big, 3, 1333333333333333333}, {-big, 3, -1333333333333333333}, {big, 7, 571428571428571429}, {-big, 7, -571428571428571429},
		{1, big, 0}, {-1, big, 0},
	} {
		if got := impl.RoundDiv(c.a, c.b); got != c.want {
			t.Errorf("RoundDiv of %d by %d is %d, not %d", c.a, c.b, got, c.want)
		}
	}
}

func TestFixedQuotientsThatAreNone(t *testing.T) {
	for _, a := range []int{1, -1, 100, -100, impl.MaxBig, -impl.MaxBig} {
		for _, b := range []int{0, -1, -2, -100, -impl.MaxBig, impl.MaxBig + 1, impl.MaxBig + 2, -impl.MaxBig - 1, math.MaxInt, math.MinInt} {
			holdBig(t, "RoundDiv by what is none", impl.RoundDiv(a, b), bigOf(0), a, b)
		}
	}
	for _, a := range []int{impl.MaxBig + 1, -impl.MaxBig - 1, impl.MaxBig + 2, math.MaxInt, math.MinInt, math.MinInt + 1} {
		for _, b := range []int{1, 2, 3, 1000, impl.MaxBig, 0, -1, impl.MaxBig + 1, math.MinInt} {
			holdBig(t, "RoundDiv of what is none", impl.RoundDiv(a, b), bigOf(0), a, b)
		}
	}
}

func TestFixedQuotientsAreNearest(t *testing.T) {
	for a := -70; a <= 70; a++ {
		for b := 1; b <= 23; b++ {
			roundDivHolds(t, a, b)
		}
	}
	g := formSource(501)
	for range 40000 {
		a, b := g.ofAnySize(impl.MaxBig), g.ofAnySize(impl.MaxBig)
		roundDivHolds(t, a, max(b, -b, 1))
	}
}

// Just at the half, one below it and one above it, on both sides of 0.
func TestFixedQuotientsAtTheHalf(t *testing.T) {
	g := formSource(502)
	for range 5000 {
		b := max(2, g.ofAnySize(impl.MaxBig/4)*2)
		at := b/2 + g.within(impl.MaxBig/b-1)*b
		for _, a := range []int{at - 1, at, at + 1, -at - 1, -at, 1 - at} {
			roundDivHolds(t, a, b)
		}
		if up, down := impl.RoundDiv(at, b), impl.RoundDiv(at-1, b); up != down+1 {
			t.Errorf("RoundDiv by %d is %d at the half %d, and %d just below", b, up, at, down)
		}
	}
}

func shiftHolds(t *testing.T, x, by int) {
	t.Helper()
	for _, cut := range cuts {
		holdBig(t, "Shift", impl.Shift(x, by, cut), cutBig(bigOf(x), by, cut), x, by, cut)
	}
}

// Each row has what comes out by CutDown, CutZero, CutNear and CutEven.
func TestFixedShiftsByHand(t *testing.T) {
	const half = 1 << 59
	for _, c := range []struct {
		x, by int
		want  [4]int
	}{
		{0, 0, [4]int{0, 0, 0, 0}}, {0, 60, [4]int{0, 0, 0, 0}}, {5, 0, [4]int{5, 5, 5, 5}}, {-5, 0, [4]int{-5, -5, -5, -5}},
		{1, 1, [4]int{0, 0, 1, 0}}, {-1, 1, [4]int{-1, 0, 0, 0}}, {3, 1, [4]int{1, 1, 2, 2}}, {-3, 1, [4]int{-2, -1, -1, -2}},
		{5, 1, [4]int{2, 2, 3, 2}}, {-5, 1, [4]int{-3, -2, -2, -2}}, {7, 1, [4]int{3, 3, 4, 4}}, {-7, 1, [4]int{-4, -3, -3, -4}},
		{4, 1, [4]int{2, 2, 2, 2}}, {-4, 1, [4]int{-2, -2, -2, -2}},
		{5, 2, [4]int{1, 1, 1, 1}}, {-5, 2, [4]int{-2, -1, -1, -1}}, {6, 2, [4]int{1, 1, 2, 2}}, {-6, 2, [4]int{-2, -1, -1, -2}},
		{7, 2, [4]int{1, 1, 2, 2}}, {-7, 2, [4]int{-2, -1, -2, -2}}, {10, 2, [4]int{2, 2, 3, 2}}, {-10, 2, [4]int{-3, -2, -2, -2}},
		{half, 60, [4]int{0, 0, 1, 0}}, {-half, 60, [4]int{-1, 0, 0, 0}}, {half - 1, 60, [4]int{0, 0, 0, 0}}, {1 - half, 60, [4]int{-1, 0, 0, 0}},
		{half + 1, 60, [4]int{0, 0, 1, 1}}, {-half - 1, 60, [4]int{-1, 0, -1, -1}}, {3 * half, 60, [4]int{1, 1, 2, 2}}, {-3 * half, 60, [4]int{-2, -1, -1, -2}},
		{5 * half, 60, [4]int{2, 2, 3, 2}}, {-5 * half, 60, [4]int{-3, -2, -2, -2}}, {1, 60, [4]int{0, 0, 0, 0}}, {-1, 60, [4]int{-1, 0, 0, 0}},
		{impl.MaxBig, 0, [4]int{impl.MaxBig, impl.MaxBig, impl.MaxBig, impl.MaxBig}}, {-impl.MaxBig, 0, [4]int{-impl.MaxBig, -impl.MaxBig, -impl.MaxBig, -impl.MaxBig}},
		{impl.MaxBig, 60, [4]int{3, 3, 3, 3}}, {-impl.MaxBig, 60, [4]int{-4, -3, -3, -3}},
		{impl.MaxBig - 1, 1, [4]int{impl.MaxBig/2 - 1, impl.MaxBig/2 - 1, impl.MaxBig / 2, impl.MaxBig / 2}},
		{1 - impl.MaxBig, 1, [4]int{-impl.MaxBig / 2, 1 - impl.MaxBig/2, 1 - impl.MaxBig/2, -impl.MaxBig / 2}},
	} {
		for i, cut := range cuts {
			if got := impl.Shift(c.x, c.by, cut); got != c.want[i] {
				t.Errorf("Shift of %d by %d, cut %d, is %d, not %d", c.x, c.by, cut, got, c.want[i])
			}
		}
	}
}

func TestFixedShiftsAreAsTold(t *testing.T) {
	for x := -300; x <= 300; x++ {
		for by := range 12 {
			shiftHolds(t, x, by)
		}
	}
	g := formSource(503)
	for by := 0; by <= 60; by++ {
		for _, x := range []int{impl.MaxBig, impl.MaxBig - 1, -impl.MaxBig, 1 - impl.MaxBig} {
			shiftHolds(t, x, by)
		}
		for range 200 {
			shiftHolds(t, g.ofAnySize(impl.MaxBig), by)
		}
	}
}

// The half between each two neighbours, the lower of which is even or odd, and beside it.
func TestFixedShiftsAtTheHalf(t *testing.T) {
	g := formSource(504)
	for by := 1; by <= 60; by++ {
		for range 60 {
			low := g.ofAnySize(impl.MaxBig>>by - 1)
			at := low<<by + 1<<(by-1)
			for _, x := range []int{at - 1, at, at + 1} {
				shiftHolds(t, x, by)
			}
			if got := impl.Shift(at, by, impl.CutEven); got%2 != 0 {
				t.Errorf("Shift of the half %d by %d, CutEven, is the odd %d", at, by, got)
			}
			if got := impl.Shift(at, by, impl.CutNear); got != low+1 {
				t.Errorf("Shift of the half %d by %d, CutNear, is %d, not the greater %d", at, by, got, low+1)
			}
		}
	}
}

// What is cut off: nothing of the sign by CutZero, nothing below 0 by CutDown, at most half by the others.
func TestFixedWhatIsCutOff(t *testing.T) {
	g := formSource(505)
	for range 20000 {
		x, by := g.ofAnySize(impl.MaxBig), int(g.next()%61)
		step := 1 << by
		off := func(cut int) int { return x - impl.Shift(x, by, cut)<<by }
		if r := off(impl.CutDown); r < 0 || r >= step {
			t.Errorf("CutDown cuts %d off %d by %d", r, x, by)
		}
		if r := off(impl.CutZero); r <= -step || r >= step || r < 0 && x > 0 || r > 0 && x < 0 {
			t.Errorf("CutZero cuts %d off %d by %d", r, x, by)
		}
		for _, cut := range []int{impl.CutNear, impl.CutEven} {
			if r := off(cut); r < -step/2 || r > step/2 {
				t.Errorf("cut %d cuts %d off %d by %d", cut, r, x, by)
			}
		}
		if a, b := impl.Shift(x, by, impl.CutNear), impl.RoundDiv(x, step); a != b {
			t.Errorf("CutNear of %d by %d is %d, RoundDiv is %d", x, by, a, b)
		}
	}
}

func TestFixedShiftsThatAreNone(t *testing.T) {
	for _, cut := range cuts {
		for _, x := range []int{1 << 20, -1 << 20, impl.MaxBig, -impl.MaxBig} {
			for _, by := range []int{-1, -2, 61, 62, 63, 64, 65, 1 << 32, math.MaxInt, math.MinInt} {
				holdBig(t, "Shift by what is none", impl.Shift(x, by, cut), bigOf(0), x, by, cut)
			}
		}
		for _, x := range []int{impl.MaxBig + 1, -impl.MaxBig - 1, impl.MaxBig + 2, math.MaxInt, math.MinInt, math.MinInt + 1} {
			for _, by := range []int{0, 1, 30, 60, -1, 61} {
				holdBig(t, "Shift of what is none", impl.Shift(x, by, cut), bigOf(0), x, by, cut)
			}
		}
	}
	for _, cut := range noCuts {
		for _, x := range []int{1 << 20, -1 << 20, impl.MaxBig, -impl.MaxBig} {
			for _, by := range []int{0, 1, 10, 60} {
				holdBig(t, "Shift by no rule", impl.Shift(x, by, cut), bigOf(0), x, by, cut)
			}
		}
	}
}
