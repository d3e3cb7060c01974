package tests

import (
	"slices"
	"strconv"
	"strings"
	"testing"

	"loop.example/g00043/impl"
)

// What this file asks of each limit of the document is that it is taken when it is met exactly, and refused when it is passed by one.

func takesUpTo(t *testing.T, what string, most int, takes func(x int) bool) {
	t.Helper()
	if !takes(most) {
		t.Errorf("%s: %d is refused", what, most)
	}
	if takes(most + 1) {
		t.Errorf("%s: %d is taken", what, most+1)
	}
}

func takesFrom(t *testing.T, what string, least, most int, takes func(x int) bool) {
	t.Helper()
	takesUpTo(t, what, most, takes)
	if !takes(least) {
		t.Errorf("%s: %d is refused", what, least)
	}
	if takes(least - 1) {
		t.Errorf("%s: %d is taken", what, least-1)
	}
}

func isTaken[A any](_ A, ok bool) bool { return ok }

func areTaken[A, B any](_ A, _ B, ok bool) bool { return ok }

func onesOf(count int) []int { return slices.Repeat([]int{1}, max(count, 0)) }

func floatsOf(count int) []float64 { return slices.Repeat([]float64{1}, count) }

func pairsOf(count int) []impl.Pair { return slices.Repeat([]impl.Pair{{Re: 1}}, count) }

const oneDouble = 1023 << 52

func TestLimitsAreTheDocuments(t *testing.T) {
	for name, numbers := range map[string][2]int{
		"MaxExp": {impl.MaxExp, 5000}, "MaxDigits": {impl.MaxDigits, 60}, "MaxPower": {impl.MaxPower, 400}, "MaxFloats": {impl.MaxFloats, 200}, "MaxPairs": {impl.MaxPairs, 128}, "MaxSample": {impl.MaxSample, 1000000000}, "MaxSignal": {impl.MaxSignal, 512},
		"MaxWord": {impl.MaxWord, 24}, "MaxBig": {impl.MaxBig, 4000000000000000000}, "MaxPoints": {impl.MaxPoints, 256}, "MaxTap": {impl.MaxTap, 1000000}, "One": {impl.One, 1073741824}, "Around256": {impl.Around256, 256}, "MaxLevels": {impl.MaxLevels, 8},
		"MaxTaps": {impl.MaxTaps, 64}, "MaxStages": {impl.MaxStages, 5}, "MaxRate": {impl.MaxRate, 16}, "MaxCoins": {impl.MaxCoins, 60}, "MaxBits": {impl.MaxBits, 1024}, "MaxBlock": {impl.MaxBlock, 255}, "MaxMend": {impl.MaxMend, 8},
		"MaxMessage": {impl.MaxMessage, 120}, "MaxChecks": {impl.MaxChecks, 64}, "MaxWide": {impl.MaxWide, 128}, "MaxRounds": {impl.MaxRounds, 50}, "MaxFrame": {impl.MaxFrame, 128}, "MaxFile": {impl.MaxFile, 20000}, "MaxFrames": {impl.MaxFrames, 60},
		"MaxSent": {impl.MaxSent, 40}, "MaxAir": {impl.MaxAir, 4096}, "MaxBlocks": {impl.MaxBlocks, 20}, "MaxWires": {impl.MaxWires, 40}, "MaxGive": {impl.MaxGive, 64}, "MaxFires": {impl.MaxFires, 2000}, "MaxScript": {impl.MaxScript, 3000},
		"MaxNodes": {impl.MaxNodes, 20}, "MaxTurns": {impl.MaxTurns, 64}, "MaxBench": {impl.MaxBench, 4000}, "MaxBenchLines": {impl.MaxBenchLines, 120}, "MaxNamed": {impl.MaxNamed, 30},
	} {
		if numbers[0] != numbers[1] {
			t.Errorf("%s is %d, not %d", name, numbers[0], numbers[1])
		}
	}
}

func TestLimitsOfForms(t *testing.T) {
	finite := func(x int) impl.Num { return impl.Num{Kind: impl.KindFinite, Exp: x, Man: 1} }
	takesFrom(t, "Exp of Pack", -impl.MaxExp, impl.MaxExp, func(x int) bool {
		bits, flags := impl.Pack(impl.Double, impl.NearEven, finite(x))
		return bits != 0 || flags != 0
	})
	takesFrom(t, "form", impl.Half, impl.Double, func(x int) bool { return impl.ShowShort(x, 0) == "0" })
	takesFrom(t, "mode", impl.NearEven, impl.ToDown, func(x int) bool { return areTaken(impl.ReadNum(impl.Half, x, "1")) })
	takesFrom(t, "kind of Pack", impl.KindZero, impl.KindNan, func(x int) bool {
		bits, _ := impl.Pack(impl.Half, impl.NearEven, impl.Num{Kind: x, Neg: true, Man: 1})
		return bits != 0
	})
	for form, width := range map[int]int{impl.Half: 16, impl.Single: 32} {
		most := 1<<width - 1
		takesFrom(t, "bits of Unpack", 0, most, func(x int) bool { return impl.Unpack(form, uint64(x)).Kind != impl.KindNone })
		takesFrom(t, "bits of ShowExact", 0, most, func(x int) bool { return impl.ShowExact(form, uint64(x)) != "" })
		takesFrom(t, "bits of Compare", 0, most, func(x int) bool { return impl.Order(form, 0, uint64(x)) != 2 })
	}
}

func TestLimitsOfTexts(t *testing.T) {
	takesFrom(t, "MaxDigits", 1, impl.MaxDigits, func(x int) bool {
		return areTaken(impl.ReadNum(impl.Double, impl.NearEven, strings.Repeat("9", x)))
	})
	takesUpTo(t, "MaxDigits behind a point", impl.MaxDigits-1, func(x int) bool {
		return areTaken(impl.ReadNum(impl.Double, impl.ToUp, "0."+strings.Repeat("0", x)))
	})
	takesFrom(t, "MaxPower", -impl.MaxPower, impl.MaxPower, func(x int) bool {
		return areTaken(impl.ReadNum(impl.Single, impl.NearAway, "1e"+strconv.Itoa(x)))
	})
	takesFrom(t, "n of Digits", 1, impl.MaxDigits, func(x int) bool { return areTaken(impl.Digits(impl.Double, oneDouble, x, impl.ToZero)) })
}

func TestLimitsOfFloatsAndPairs(t *testing.T) {
	for name, call := range map[string]func(list []float64) float64{"Sum": impl.Sum, "PairSum": impl.PairSum, "CareSum": impl.CareSum, "Least": impl.Least, "Greatest": impl.Greatest} {
		takesUpTo(t, "MaxFloats of "+name, impl.MaxFloats, func(x int) bool { return call(floatsOf(x)) != 0 })
	}
	takesUpTo(t, "MaxFloats of Dot", impl.MaxFloats, func(x int) bool { return impl.Dot(floatsOf(x), floatsOf(x)) != 0 })
	takesUpTo(t, "MaxFloats of Horner", impl.MaxFloats, func(x int) bool { return impl.Horner(floatsOf(x), 1) != 0 })
	takesUpTo(t, "MaxFloats of SortFloats", impl.MaxFloats, func(x int) bool { return len(impl.SortFloats(floatsOf(x))) > 0 })
	takesFrom(t, "n of PowPair", 0, 1000, func(x int) bool { return impl.PowPair(impl.Pair{Re: 1}, x).Re == 1 })
	takesUpTo(t, "MaxPairs of PolyPair", impl.MaxPairs, func(x int) bool { return impl.PolyPair(pairsOf(x), impl.Pair{Re: 1}).Re > 0 })
	takesUpTo(t, "MaxPairs of RootsTo", impl.MaxPairs-1, func(x int) bool { return len(impl.RootsTo(pairsOf(x))) > 0 })
	takesUpTo(t, "MaxPairs of SumPairs", impl.MaxPairs, func(x int) bool { return impl.SumPairs(pairsOf(x), 3).Re > 0 })
	takesFrom(t, "workers of SumPairs", 1, 16, func(x int) bool { return impl.SumPairs(pairsOf(5), x).Re > 0 })
}

func TestLimitsOfFixedPoint(t *testing.T) {
	const big = impl.MaxBig
	takesUpTo(t, "MaxSignal", maxSignal, func(x int) bool { return impl.SignalOk(make([]int, x)) })
	takesFrom(t, "MaxSample", -maxSample, maxSample, func(x int) bool { return impl.SignalOk([]int{0, x}) })
	takesFrom(t, "a of RoundDiv", -big, big, func(x int) bool { return impl.RoundDiv(x, 1) == x })
	takesFrom(t, "b of RoundDiv", 1, big, func(x int) bool { return impl.RoundDiv(big, x) > 0 })
	takesFrom(t, "bits of Clip", 1, impl.MaxWord, func(x int) bool { return impl.Clip(-1, x) == -1 })
	takesFrom(t, "x of Shift", -big, big, func(x int) bool { return impl.Shift(x, 0, impl.CutEven) == x })
	takesFrom(t, "by of Shift", 0, 60, func(x int) bool { return impl.Shift(big, x, impl.CutDown) > 0 })
	takesFrom(t, "cut of Shift", impl.CutDown, impl.CutEven, func(x int) bool { return impl.Shift(8, 1, x) == 4 })
	takesUpTo(t, "bits of MulFix", impl.MaxWord, func(x int) bool { return impl.MulFix(1, 1, 0, x, impl.CutNear) == 1 })
	takesFrom(t, "frac of MulFix", 0, impl.MaxWord, func(x int) bool { return impl.MulFix(1<<23-1, 1<<23-1, x, 24, impl.CutNear) > 0 })
	takesFrom(t, "a of MulFix", -8, 7, func(x int) bool { return impl.MulFix(x, 1, 0, 4, impl.CutNear) == x })
	takesFrom(t, "b of MulFix", -8, 7, func(x int) bool { return impl.MulFix(1, x, 0, 4, impl.CutNear) == x })
	for _, each := range []bool{false, true} {
		takesUpTo(t, "MaxSignal of DotFix", maxSignal, func(x int) bool { return impl.DotFix(onesOf(x), onesOf(x), 0, 24, impl.CutNear, each) > 0 })
		takesFrom(t, "a of DotFix", -8, 7, func(x int) bool { return impl.DotFix([]int{x}, []int{1}, 0, 4, impl.CutNear, each) == x })
	}
	takesFrom(t, "by of ShapeNoise", 1, 20, func(x int) bool { return isTaken(impl.ShapeNoise(onesOf(3), x)) })
	takesUpTo(t, "what Ramp tells", 1, func(x int) bool { return isTaken(impl.Ramp([]int{maxSample - 1, x})) })
	takesUpTo(t, "what Steps tells", 1, func(x int) bool { return isTaken(impl.Steps([]int{1 - maxSample, x})) })
	for name, call := range map[string]func(list []int) ([]int, bool){"Ramp": impl.Ramp, "Steps": impl.Steps, "ShapeNoise": func(list []int) ([]int, bool) { return impl.ShapeNoise(list, 3) }} {
		takesUpTo(t, "MaxSignal of "+name, maxSignal, func(x int) bool { return isTaken(call(make([]int, x))) })
		takesFrom(t, "MaxSample of "+name, -maxSample, maxSample, func(x int) bool { return isTaken(call([]int{x})) })
	}
}

func TestLimitsOfResidues(t *testing.T) {
	const p, big = impl.PrimeB, impl.MaxBig
	takesFrom(t, "n of PowMod", 0, big, func(x int) bool { return impl.PowMod(1, x, p) == 1 })
	takesFrom(t, "a of InvMod", 1, p-1, func(x int) bool { return impl.InvMod(x, p) > 0 })
	takesFrom(t, "a of PowMod", 0, p-1, func(x int) bool { return impl.PowMod(x, 0, p) == 1 })
	takesFrom(t, "n of Unit", 1, maxPoints, func(x int) bool { return impl.Unit(x, p) > 0 })
	takesFrom(t, "residues of Dft", 0, p-1, func(x int) bool { return isTaken(impl.Dft([]int{x}, p, false)) })
	takesUpTo(t, "MaxPoints of Dft", maxPoints, func(x int) bool { return isTaken(impl.Dft(make([]int, x), p, true)) })
	takesUpTo(t, "rows of Dft2", maxPoints, func(x int) bool { return isTaken(impl.Dft2(slices.Repeat([][]int{{1}}, x), p, false)) })
	takesUpTo(t, "MaxPoints of Walsh", maxPoints, func(x int) bool { return isTaken(impl.Walsh(make([]int, x))) })
	takesFrom(t, "MaxSample of Walsh", -maxSample, maxSample, func(x int) bool { return isTaken(impl.Walsh([]int{x})) })
	takesFrom(t, "size of Blocks", 1, maxPoints, func(x int) bool { return isTaken(impl.Blocks(onesOf(2), onesOf(9), x)) })
	takesFrom(t, "Together", -big, big, func(x int) bool {
		return impl.Together(modOf(x, impl.PrimeA), modOf(x, impl.PrimeB), modOf(x, impl.PrimeC)) == x
	})
	for name, call := range map[string]func(a, b []int) ([]int, bool){"Convolve": impl.Convolve, "Blocks": func(a, b []int) ([]int, bool) { return impl.Blocks(a, b, 7) }} {
		takesUpTo(t, "first list of "+name, maxPoints, func(x int) bool { return isTaken(call(onesOf(x), []int{1})) })
		takesUpTo(t, "second list of "+name, maxPoints, func(x int) bool { return isTaken(call([]int{1}, onesOf(x))) })
		takesFrom(t, "first MaxTap of "+name, -maxTap, maxTap, func(x int) bool { return isTaken(call([]int{x}, []int{1})) })
		takesFrom(t, "second MaxTap of "+name, -maxTap, maxTap, func(x int) bool { return isTaken(call([]int{1}, []int{x})) })
	}
	takesFrom(t, "MaxPoints of Around", 1, maxPoints, func(x int) bool { return isTaken(impl.Around(onesOf(x), onesOf(x))) })
	takesFrom(t, "MaxTap of Around", -maxTap, maxTap, func(x int) bool { return isTaken(impl.Around([]int{1}, []int{x})) })
}

func TestLimitsOfWaves(t *testing.T) {
	takesFrom(t, "n of Tone", 0, maxSignal, func(x int) bool { return isTaken(impl.Tone(1, 1, 1, x)) })
	takesFrom(t, "size of Tone", 0, maxSample, func(x int) bool { return isTaken(impl.Tone(1, 1, x, 2)) })
	takesFrom(t, "phase of Tone", -maxSample, maxSample, func(x int) bool { return isTaken(impl.Tone(1, x, 1, 2)) })
	takesFrom(t, "step of Tone", -maxSample, maxSample, func(x int) bool { return isTaken(impl.Tone(x, 1, 1, 2)) })
	takesFrom(t, "step of Bin", -maxSample, maxSample, func(x int) bool { return areTaken(impl.Bin(onesOf(3), x)) })
	takesFrom(t, "MaxTap of Bin", -maxTap, maxTap, func(x int) bool { return areTaken(impl.Bin([]int{x}, 1)) })
	takesUpTo(t, "MaxSignal of Bin", maxSignal, func(x int) bool { return areTaken(impl.Bin(onesOf(x), 1)) })
	takesFrom(t, "x of Turn", -maxSample, maxSample, func(x int) bool { got, _ := impl.Turn(x, 0, 0); return got == x })
	takesFrom(t, "y of Turn", -maxSample, maxSample, func(x int) bool { _, got := impl.Turn(0, x, 0); return got == x })
	takesFrom(t, "kind of Window", impl.WindowFlat, impl.WindowHamming, func(x int) bool { return isTaken(impl.Window(x, 3)) })
	takesFrom(t, "n of Window", 1, maxSignal, func(x int) bool { return isTaken(impl.Window(impl.WindowHann, x)) })
	takesFrom(t, "kind of Taper", impl.WindowFlat, impl.WindowHamming, func(x int) bool { return isTaken(impl.Taper(x, nil)) })
	takesUpTo(t, "MaxSignal of Taper", maxSignal, func(x int) bool { return isTaken(impl.Taper(1, onesOf(x))) })
	takesFrom(t, "MaxSample of Taper", -maxSample, maxSample, func(x int) bool { return isTaken(impl.Taper(1, []int{x})) })
	takesFrom(t, "MaxTap of Loudest", -maxTap, maxTap, func(x int) bool { return isTaken(impl.Loudest([]int{x})) })
	takesUpTo(t, "MaxSignal of Loudest", maxSignal, func(x int) bool { return isTaken(impl.Loudest(onesOf(x))) })
}

func TestLimitsOfFourier(t *testing.T) {
	const most = impl.MaxPairs
	takesUpTo(t, "MaxPairs of Fourier", most, func(x int) bool { return isTaken(impl.Fourier(pairsOf(x), false)) })
	takesUpTo(t, "MaxPairs of Fast", most, func(x int) bool { return isTaken(impl.Fast(pairsOf(x), true)) })
	takesUpTo(t, "MaxPairs of Powers", most, func(x int) bool { return len(impl.Powers(pairsOf(x))) > 0 })
	takesFrom(t, "hop of Pieces", 1, most, func(x int) bool { return isTaken(impl.Pieces(pairsOf(4), 2, x)) })
	takesFrom(t, "size of Pieces", 1, most, func(x int) bool { return isTaken(impl.Pieces(pairsOf(most), x, 1)) })
	takesUpTo(t, "MaxPairs of Pieces", most, func(x int) bool { return isTaken(impl.Pieces(pairsOf(x), 4, 9)) })
	takesFrom(t, "pieces of Average", 1, most, func(x int) bool { return isTaken(impl.Average(slices.Repeat([][]impl.Pair{pairsOf(3)}, x))) })
	takesUpTo(t, "length of Average", most, func(x int) bool { return isTaken(impl.Average([][]impl.Pair{pairsOf(x)})) })
}

func TestLimitsOfLifting(t *testing.T) {
	takesFrom(t, "kind of LiftOnce", impl.LiftMean, impl.LiftNine, func(x int) bool { return areTaken(impl.LiftOnce(x, onesOf(3))) })
	takesUpTo(t, "MaxSignal of LiftOnce", maxSignal, func(x int) bool { return areTaken(impl.LiftOnce(1, onesOf(x))) })
	takesFrom(t, "MaxSample of LiftOnce", -maxSample, maxSample, func(x int) bool { return areTaken(impl.LiftOnce(2, []int{x})) })
	takesFrom(t, "kind of LiftBack", impl.LiftMean, impl.LiftNine, func(x int) bool { return isTaken(impl.LiftBack(x, onesOf(2), onesOf(1))) })
	takesFrom(t, "low numbers of LiftBack", 5, 6, func(x int) bool { return isTaken(impl.LiftBack(3, onesOf(x), onesOf(5))) })
	takesUpTo(t, "MaxSignal of LiftBack", maxSignal, func(x int) bool { return isTaken(impl.LiftBack(3, onesOf((x+1)/2), onesOf(x/2))) })
	takesFrom(t, "low of LiftBack", -maxLifted, maxLifted, func(x int) bool { return isTaken(impl.LiftBack(2, []int{x}, nil)) })
	takesFrom(t, "high of LiftBack", -maxLifted, maxLifted, func(x int) bool { return isTaken(impl.LiftBack(2, []int{0}, []int{x})) })
	for name, call := range map[string]func(kind int, list []int, levels int) ([]int, bool){"Lift": impl.Lift, "Unlift": impl.Unlift} {
		most := map[string]int{"Lift": maxSample, "Unlift": maxLifted}[name]
		takesFrom(t, "levels of "+name, 0, maxLevels, func(x int) bool { return isTaken(call(2, onesOf(3), x)) })
		takesFrom(t, "kind of "+name, impl.LiftMean, impl.LiftNine, func(x int) bool { return isTaken(call(x, onesOf(3), 0)) })
		takesFrom(t, "numbers of "+name, -most, most, func(x int) bool { return isTaken(call(1, []int{x, 0}, 1)) })
		takesUpTo(t, "MaxSignal of "+name, maxSignal, func(x int) bool { return isTaken(call(1, onesOf(x), 2)) })
	}
	for name, call := range map[string]func(kind int, rows [][]int) ([][]int, bool){"Lift2": impl.Lift2, "Unlift2": impl.Unlift2} {
		most := map[string]int{"Lift2": maxSample, "Unlift2": maxLifted}[name]
		takesFrom(t, "kind of "+name, impl.LiftMean, impl.LiftNine, func(x int) bool { return isTaken(call(x, [][]int{{1}})) })
		takesUpTo(t, "rows of "+name, 64, func(x int) bool { return isTaken(call(1, slices.Repeat([][]int{{1}}, x))) })
		takesUpTo(t, "columns of "+name, 64, func(x int) bool { return isTaken(call(3, [][]int{onesOf(x), onesOf(x)})) })
		takesFrom(t, "numbers of "+name, -most, most, func(x int) bool { return isTaken(call(2, [][]int{{0, x}})) })
	}
}
