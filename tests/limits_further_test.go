package tests

import (
	"slices"
	"strings"
	"testing"

	"loop.example/g00043/impl"
)

func TestLimitsOfFilters(t *testing.T) {
	state := func(taps int) []int { return make([]int, max(taps-1, 0)) }
	for name, call := range map[string]func(taps, state, list []int) ([]int, []int, bool){"Fir": impl.Fir, "FirTurned": impl.FirTurned} {
		takesFrom(t, "MaxTaps of "+name, 1, maxTaps, func(x int) bool { return areTaken(call(onesOf(x), state(x), nil)) })
		takesFrom(t, "MaxTap of "+name, -maxTap, maxTap, func(x int) bool { return areTaken(call([]int{x}, nil, []int{1})) })
		takesFrom(t, "state of "+name, -maxSample, maxSample, func(x int) bool { return areTaken(call(onesOf(2), []int{x}, nil)) })
		takesFrom(t, "samples of a state of "+name, 4, 4, func(x int) bool { return areTaken(call(onesOf(5), onesOf(x), nil)) })
		takesUpTo(t, "MaxSignal of "+name, maxSignal, func(x int) bool { return areTaken(call(onesOf(1), nil, onesOf(x))) })
		takesFrom(t, "MaxSample of "+name, -maxSample, maxSample, func(x int) bool { return areTaken(call(onesOf(1), nil, []int{x})) })
	}
	for name, call := range map[string]func(list []int, back int) ([]int, bool){"Comb": impl.Comb, "Gather": impl.Gather} {
		takesFrom(t, "back of "+name, 1, maxSignal, func(x int) bool { return isTaken(call(onesOf(2), x)) })
		takesFrom(t, "MaxSample of "+name, -maxSample, maxSample, func(x int) bool { return isTaken(call([]int{x}, 1)) })
		takesUpTo(t, "MaxSignal of "+name, maxSignal, func(x int) bool { return isTaken(call(onesOf(x), 1)) })
	}
	takesFrom(t, "rate of Cic", 1, 32, func(x int) bool { return isTaken(impl.Cic(onesOf(2), x, 1)) })
	takesFrom(t, "stages of Cic", 1, impl.MaxStages, func(x int) bool { return isTaken(impl.Cic(onesOf(2), 1, x)) })
	takesFrom(t, "samples of Cic", -maxNarrow, maxNarrow, func(x int) bool { return isTaken(impl.Cic([]int{x}, 1, 1)) })
	takesFrom(t, "taps of Adapt", 1, maxTaps, func(x int) bool { return areTaken(impl.Adapt(x, 1, onesOf(2), onesOf(2))) })
	takesFrom(t, "by of Adapt", 0, 40, func(x int) bool { return areTaken(impl.Adapt(3, x, onesOf(2), onesOf(2))) })
	takesFrom(t, "samples of Adapt", -maxNarrow, maxNarrow, func(x int) bool { return areTaken(impl.Adapt(3, 1, []int{x}, onesOf(1))) })
	takesFrom(t, "wanted of Adapt", -maxNarrow, maxNarrow, func(x int) bool { return areTaken(impl.Adapt(3, 1, onesOf(1), []int{x})) })
	takesFrom(t, "size of Middle", 1, 31, func(x int) bool { return isTaken(impl.Middle(onesOf(2), x)) })
	takesFrom(t, "odd size of Middle", 0, 15, func(x int) bool { return isTaken(impl.Middle(onesOf(2), 2*x+1)) })
}

func TestLimitsOfSections(t *testing.T) {
	of := func(s impl.Section, p impl.Past) bool { return areTaken(impl.Iir(s, p, onesOf(1))) }
	for name, section := range map[string]func(x int) impl.Section{
		"B0": func(x int) impl.Section { return impl.Section{B0: x} }, "B1": func(x int) impl.Section { return impl.Section{B1: x} }, "B2": func(x int) impl.Section { return impl.Section{B2: x} },
		"A1": func(x int) impl.Section { return impl.Section{A1: x} }, "A2": func(x int) impl.Section { return impl.Section{A2: x} },
	} {
		takesFrom(t, name+" of a Section", -maxFactor, maxFactor, func(x int) bool { return of(section(x), impl.Past{}) })
		takesFrom(t, name+" in a Chain", -maxFactor, maxFactor, func(x int) bool { return isTaken(impl.Chain([]impl.Section{section(x)}, nil)) })
	}
	for name, past := range map[string]func(x int) impl.Past{
		"X1": func(x int) impl.Past { return impl.Past{X1: x} }, "X2": func(x int) impl.Past { return impl.Past{X2: x} }, "Y1": func(x int) impl.Past { return impl.Past{Y1: x} }, "Y2": func(x int) impl.Past { return impl.Past{Y2: x} },
	} {
		takesFrom(t, name+" of a Past", -maxTap, maxTap, func(x int) bool { return of(impl.Section{}, past(x)) })
	}
	takesFrom(t, "E of a Past", 0, 16383, func(x int) bool { return of(impl.Section{}, impl.Past{E: x}) })
	takesFrom(t, "MaxTap of Iir", -maxTap, maxTap, func(x int) bool { return areTaken(impl.Iir(impl.Section{}, impl.Past{}, []int{x})) })
	takesUpTo(t, "sections of Chain", maxTaps, func(x int) bool { return isTaken(impl.Chain(make([]impl.Section, x), onesOf(2))) })
	takesFrom(t, "MaxTap of Chain", -maxTap, maxTap, func(x int) bool { return isTaken(impl.Chain(nil, []int{x})) })
}

func TestLimitsOfRates(t *testing.T) {
	takesFrom(t, "by of Up", 1, impl.MaxRate, func(x int) bool { return isTaken(impl.Up(onesOf(2), x)) })
	takesUpTo(t, "what Up tells", maxSignal/2, func(x int) bool { return isTaken(impl.Up(onesOf(x), 2)) })
	takesUpTo(t, "what Up tells by MaxRate", maxSignal/16, func(x int) bool { return isTaken(impl.Up(onesOf(x), 16)) })
	takesFrom(t, "by of Down", 1, impl.MaxRate, func(x int) bool { return isTaken(impl.Down(onesOf(2), x, 0)) })
	takesFrom(t, "phase of Down", 0, 6, func(x int) bool { return isTaken(impl.Down(onesOf(2), 7, x)) })
	takesFrom(t, "up of Rational", 1, impl.MaxRate, func(x int) bool { return isTaken(impl.Rational(onesOf(2), onesOf(1), x, 1)) })
	takesFrom(t, "down of Rational", 1, impl.MaxRate, func(x int) bool { return isTaken(impl.Rational(onesOf(2), onesOf(1), 1, x)) })
	takesFrom(t, "taps of Rational", 1, maxTaps, func(x int) bool { return isTaken(impl.Rational(onesOf(2), onesOf(x), 2, 3)) })
	takesFrom(t, "MaxTap of Rational", -maxTap, maxTap, func(x int) bool { return isTaken(impl.Rational([]int{x}, onesOf(1), 1, 1)) })
	takesUpTo(t, "MaxSignal of Rational", maxSignal, func(x int) bool { return isTaken(impl.Rational(onesOf(x), onesOf(1), 2, 2)) })
	takesFrom(t, "num of Drift", 1, maxTap, func(x int) bool { return isTaken(impl.Drift(onesOf(2), x, 3, 0)) })
	takesFrom(t, "den of Drift", 1, maxTap, func(x int) bool { return isTaken(impl.Drift(onesOf(2), maxTap, x, 0)) })
	takesFrom(t, "start of Drift", 0, 8, func(x int) bool { return isTaken(impl.Drift(onesOf(2), 5, 9, x)) })
	takesUpTo(t, "what Drift tells", maxSignal-1, func(x int) bool { return isTaken(impl.Drift(onesOf(2), 1, x, 0)) })
	takesFrom(t, "num of Delay", 0, maxTap, func(x int) bool { return isTaken(impl.Delay(onesOf(2), x, 3)) })
	takesFrom(t, "den of Delay", 1, maxTap, func(x int) bool { return isTaken(impl.Delay(onesOf(2), 1, x)) })
	takesFrom(t, "cells of a Ring", 1, maxSignal, func(x int) bool { return areTaken(impl.Push(impl.Ring{Cells: onesOf(x)}, onesOf(2))) })
	takesFrom(t, "At of a Ring", 0, 4, func(x int) bool { return areTaken(impl.Push(impl.Ring{Cells: onesOf(5), At: x}, nil)) })
	takesFrom(t, "samples of a Ring", -maxSample, maxSample, func(x int) bool { return areTaken(impl.Push(impl.Ring{Cells: []int{x}}, nil)) })
	takesUpTo(t, "MaxSignal of Push", maxSignal, func(x int) bool { return areTaken(impl.Push(impl.Ring{Cells: onesOf(5)}, onesOf(x))) })
	takesFrom(t, "back of Tap", 1, 5, func(x int) bool { return isTaken(impl.Tap(impl.Ring{Cells: onesOf(5)}, x)) })
}

func TestLimitsOfDetection(t *testing.T) {
	takesFrom(t, "n of Ways", 0, impl.MaxCoins, func(x int) bool { return impl.Ways(x, -x) > 0 })
	takesFrom(t, "n of Threshold", 0, impl.MaxCoins, func(x int) bool { return isTaken(impl.Threshold(x, 1, 2)) })
	takesFrom(t, "num of Threshold", 1, 1000, func(x int) bool { return isTaken(impl.Threshold(5, x, 2)) })
	takesFrom(t, "den of Threshold", 1, 1000, func(x int) bool { return isTaken(impl.Threshold(5, 1, x)) })
	takesFrom(t, "pattern of Match", 1, 5, func(x int) bool { return isTaken(impl.Match(onesOf(5), onesOf(x))) })
	takesFrom(t, "MaxTap of Match", -maxTap, maxTap, func(x int) bool { return isTaken(impl.Match([]int{x}, onesOf(1))) })
	takesFrom(t, "MaxTap of a pattern", -maxTap, maxTap, func(x int) bool { return isTaken(impl.Match(onesOf(1), []int{x})) })
	takesUpTo(t, "MaxSignal of Match", maxSignal, func(x int) bool { return isTaken(impl.Match(onesOf(x), onesOf(3))) })
	takesUpTo(t, "low of Peaks", 7, func(x int) bool { return isTaken(impl.Peaks(onesOf(3), 7, x)) })
	takesUpTo(t, "MaxSignal of Crossings", maxSignal, func(x int) bool {
		return len(impl.Crossings(append(make([]int, x-2), -5, 5), 1)) == 1
	})
	if len(impl.Crossings([]int{-1, 1}, 0)) != 1 || len(impl.Crossings([]int{-1, 1}, -1)) != 0 {
		t.Error("a band of 0 is refused, or one of -1 taken")
	}
	takesFrom(t, "place of Best", 1, 3, func(x int) bool { at, _ := impl.Best(onesOf(3), onesOf(x)); return at == 0 })
	takesUpTo(t, "cuts of Counts", 100, func(x int) bool { return isTaken(impl.Counts(onesOf(3), counted(x))) })
	takesUpTo(t, "MaxSignal of Counts", maxSignal, func(x int) bool { return isTaken(impl.Counts(onesOf(x), counted(3))) })
}

func TestLimitsOfSymbols(t *testing.T) {
	const most, full = impl.MaxBits, 65535
	takesUpTo(t, "MaxBits", most, func(x int) bool { return impl.BitsOk(onesOf(x)) })
	takesFrom(t, "bits", 0, 1, func(x int) bool { return impl.BitsOk([]int{x}) })
	takesFrom(t, "n of Gray", 1, impl.MaxBig, func(x int) bool { return impl.Gray(x) > 0 })
	takesFrom(t, "n of UnGray", 1, impl.MaxBig, func(x int) bool { return impl.UnGray(x) > 0 })
	takesUpTo(t, "MaxBits of Map", most, func(x int) bool { return isTaken(impl.Map(2, onesOf(x))) })
	for _, width := range pointWidths {
		takesUpTo(t, "points of Decide", most/width, func(x int) bool { return isTaken(impl.Decide(width, make([]impl.Point, x))) })
		takesFrom(t, "width of Map", width, width, func(x int) bool { return isTaken(impl.Map(x, onesOf(4))) })
		takesFrom(t, "width of Decide", width, width, func(x int) bool { return isTaken(impl.Decide(x, nil)) })
	}
	takesFrom(t, "X of Decide", -maxSample, maxSample, func(x int) bool { return isTaken(impl.Decide(2, []impl.Point{{X: x}})) })
	takesFrom(t, "Y of Decide", -maxSample, maxSample, func(x int) bool { return isTaken(impl.Decide(2, []impl.Point{{Y: x}})) })
	for name, call := range map[string]func(bits []int) ([]int, bool){"Differ": impl.Differ, "UnDiffer": impl.UnDiffer, "Stir": func(bits []int) ([]int, bool) { return impl.Stir(bits, 3, 5) }, "Follow": func(bits []int) ([]int, bool) { return impl.Follow(bits, 3) }, "UnFollow": func(bits []int) ([]int, bool) { return impl.UnFollow(bits, 3) }} {
		takesUpTo(t, "MaxBits of "+name, most, func(x int) bool { return isTaken(call(onesOf(x))) })
		takesFrom(t, "bits of "+name, 0, 1, func(x int) bool { return isTaken(call([]int{x})) })
	}
	takesFrom(t, "taps of Stir", 1, full, func(x int) bool { return isTaken(impl.Stir(onesOf(2), x, 1)) })
	takesFrom(t, "seed of Stir", 1, full, func(x int) bool { return isTaken(impl.Stir(onesOf(2), 1, x)) })
	takesFrom(t, "taps of Follow", 0, full, func(x int) bool { return isTaken(impl.Follow(onesOf(2), x)) })
	takesFrom(t, "taps of UnFollow", 0, full, func(x int) bool { return isTaken(impl.UnFollow(onesOf(2), x)) })
	for name, call := range map[string]func(list []int, rows int) ([]int, bool){"Weave": impl.Weave, "Unweave": impl.Unweave} {
		takesFrom(t, "rows of "+name, 1, 64, func(x int) bool { return isTaken(call(onesOf(9), x)) })
		takesUpTo(t, "MaxBits of "+name, most, func(x int) bool { return isTaken(call(onesOf(x), 5)) })
	}
	takesUpTo(t, "MaxBits of Pack8", most, func(x int) bool { return isTaken(impl.Pack8(onesOf(x))) })
	takesFrom(t, "n of Unpack8", 0, most, func(x int) bool { return isTaken(impl.Unpack8(make([]byte, (x+7)/8), x)) })
	takesFrom(t, "bytes of Unpack8", 2, 2, func(x int) bool { return isTaken(impl.Unpack8(make([]byte, x), 12)) })
}

func TestLimitsOfBlockCodes(t *testing.T) {
	takesUpTo(t, "bytes of Crc16", 65536, func(x int) bool { return impl.Crc16(make([]byte, x)) > 0 })
	takesFrom(t, "n of Ham", 1, 15, func(x int) bool { return impl.Ham(x) > 0 })
	takesFrom(t, "w of UnHam", 0, 255, func(x int) bool { n, _ := impl.UnHam(x); return n >= 0 })
	takesFrom(t, "a of GfMul", 1, 255, func(x int) bool { return impl.GfMul(x, 1) > 0 })
	takesFrom(t, "b of GfMul", 1, 255, func(x int) bool { return impl.GfMul(1, x) > 0 })
	takesFrom(t, "a of GfInv", 1, 255, func(x int) bool { return impl.GfInv(x) > 0 })
	takesFrom(t, "mend of RsCode", 1, maxMend, func(x int) bool { return isTaken(impl.RsCode([]byte{1}, x)) })
	takesFrom(t, "mend of RsMend", 1, maxMend, func(x int) bool { return areTaken(impl.RsMend(make([]byte, 20), x)) })
	takesFrom(t, "mend of RsFill", 1, maxMend, func(x int) bool { return isTaken(impl.RsFill(make([]byte, 20), nil, x)) })
	for mend := 1; mend <= maxMend; mend++ {
		least, most := 2*mend+1, impl.MaxBlock
		bytes := func(x int) []byte { return make([]byte, max(x, 0)) }
		takesFrom(t, "data of RsCode", 1, most-2*mend, func(x int) bool { return isTaken(impl.RsCode(bytes(x), mend)) })
		takesFrom(t, "word of RsOk", least, most, func(x int) bool { return impl.RsOk(bytes(x), mend) })
		takesFrom(t, "word of RsMend", least, most, func(x int) bool { return areTaken(impl.RsMend(bytes(x), mend)) })
		takesFrom(t, "word of RsFill", least, most, func(x int) bool { return isTaken(impl.RsFill(bytes(x), nil, mend)) })
		takesUpTo(t, "gone of RsFill", 2*mend, func(x int) bool { return isTaken(impl.RsFill(bytes(99), counted(x), mend)) })
		takesFrom(t, "places of RsFill", 0, 98, func(x int) bool { return isTaken(impl.RsFill(bytes(99), []int{x}, mend)) })
		word := codeSlow([]byte{7, 8, 9}, mend)
		takesUpTo(t, "hurt bytes of RsMend", mend, func(x int) bool {
			hurt := slices.Clone(word)
			for at := range x {
				hurt[at] ^= 1
			}
			mended, _, _ := impl.RsMend(hurt, mend)
			return slices.Equal(mended, word)
		})
	}
}

func TestLimitsOfTrellises(t *testing.T) {
	takesFrom(t, "m of Spread", 1, 6, func(x int) bool { return isTaken(impl.Spread(x, 1, 1, onesOf(2))) })
	takesFrom(t, "m of Likeliest", 1, 6, func(x int) bool { return areTaken(impl.Likeliest(x, 1, 1, make([]int, 2*x+20))) })
	for m := 1; m <= 6; m++ {
		masks := 1<<(m+1) - 1
		takesFrom(t, "a of Spread", 1, masks, func(x int) bool { return isTaken(impl.Spread(m, x, 1, onesOf(2))) })
		takesFrom(t, "b of Spread", 1, masks, func(x int) bool { return isTaken(impl.Spread(m, 1, x, onesOf(2))) })
		takesFrom(t, "a of Likeliest", 1, masks, func(x int) bool { return areTaken(impl.Likeliest(m, x, 1, make([]int, 2*m+4))) })
		takesFrom(t, "b of Likeliest", 1, masks, func(x int) bool { return areTaken(impl.Likeliest(m, 1, x, make([]int, 2*m+4))) })
		takesFrom(t, "n of Likeliest", 0, impl.MaxMessage, func(x int) bool { return areTaken(impl.Likeliest(m, 1, 1, make([]int, 2*(m+x)))) })
	}
	takesUpTo(t, "MaxMessage of Spread", impl.MaxMessage, func(x int) bool { return isTaken(impl.Spread(2, 7, 5, onesOf(x))) })
	takesFrom(t, "numbers of Likeliest", -100, 100, func(x int) bool { return areTaken(impl.Likeliest(1, 3, 1, []int{0, x, 0, 0})) })
	takesFrom(t, "keep of Thin", 1, 32, func(x int) bool { return isTaken(impl.Thin(onesOf(5), onesOf(x))) })
	takesFrom(t, "numbers of keep", 0, 1, func(x int) bool { return isTaken(impl.Thin(onesOf(5), []int{1, x})) })
	takesUpTo(t, "MaxBits of Thin", impl.MaxBits, func(x int) bool { return isTaken(impl.Thin(onesOf(x), onesOf(1))) })
	takesFrom(t, "keep of Thicken", 1, 32, func(x int) bool { return isTaken(impl.Thicken(onesOf(5), onesOf(x), 5)) })
	takesFrom(t, "n of Thicken", 0, impl.MaxBits, func(x int) bool { return isTaken(impl.Thicken(onesOf(x), onesOf(1), x)) })
	takesFrom(t, "size of Soften", 0, 100, func(x int) bool { return isTaken(impl.Soften(onesOf(2), x)) })
	takesUpTo(t, "MaxBits of Soften", impl.MaxBits, func(x int) bool { return isTaken(impl.Soften(onesOf(x), 1)) })
}

func TestLimitsOfParities(t *testing.T) {
	takesUpTo(t, "MaxChecks", impl.MaxChecks, func(x int) bool { return impl.ChecksOk(slices.Repeat([][]int{{0, 1}}, x), 2) })
	takesFrom(t, "MaxWide", 1, impl.MaxWide, func(x int) bool { return impl.ChecksOk(nil, x) })
	takesFrom(t, "places of a check", 2, 16, func(x int) bool { return impl.ChecksOk([][]int{counted(x)}, 20) })
	takesFrom(t, "place in a check", 0, 8, func(x int) bool { return impl.ChecksOk([][]int{{min(x, 3), max(x, 4)}}, 9) })
	checks := [][]int{{0, 1}, {1, 2}}
	takesFrom(t, "rounds of TurnBits", 0, impl.MaxRounds, func(x int) bool { word, _, _ := impl.TurnBits(checks, []int{1, 1, 0}, x); return len(word) == 3 })
	takesFrom(t, "rounds of PassHints", 0, impl.MaxRounds, func(x int) bool { word, _, _ := impl.PassHints(checks, onesOf(3), x); return len(word) == 3 })
	takesFrom(t, "hints", -1000, 1000, func(x int) bool { word, _, _ := impl.PassHints(checks, []int{1, 1, x}, 3); return len(word) == 3 })
	takesFrom(t, "n of Basis", 3, impl.MaxWide, func(x int) bool { return isTaken(impl.Basis(checks, x)) })
	takesUpTo(t, "word of Fails", impl.MaxWide, func(x int) bool { return isTaken(impl.Fails(checks, onesOf(x))) })
	takesUpTo(t, "checks of Basis", impl.MaxChecks, func(x int) bool { return isTaken(impl.Basis(slices.Repeat([][]int{{0, 1}}, x), 2)) })
}

func TestLimitsOfPacking(t *testing.T) {
	takesFrom(t, "order of Guess", 0, 3, func(x int) bool { return isTaken(impl.Guess(x, onesOf(2))) })
	takesFrom(t, "order of UnGuess", 0, 3, func(x int) bool { return isTaken(impl.UnGuess(x, onesOf(2))) })
	takesUpTo(t, "MaxSignal of UnGuess", maxSignal, func(x int) bool { return isTaken(impl.UnGuess(0, onesOf(x))) })
	takesFrom(t, "what UnGuess brings", -maxSample, maxSample, func(x int) bool { return isTaken(impl.UnGuess(1, []int{x, 0})) })
	takesFrom(t, "k of Rice", 0, 30, func(x int) bool { return isTaken(impl.Rice(x, onesOf(2))) })
	takesFrom(t, "numbers of Rice", -maxSample, maxSample, func(x int) bool { return isTaken(impl.Rice(30, []int{x})) })
	takesFrom(t, "bits of Rice", -50000, 49999, func(x int) bool { return isTaken(impl.Rice(0, []int{x})) })
	takesUpTo(t, "MaxFrame of Rice", maxFrame, func(x int) bool { return isTaken(impl.Rice(1, onesOf(x))) })
	takesFrom(t, "k of UnRice", 0, 30, func(x int) bool { return areTaken(impl.UnRice(x, make([]int, 31), 1)) })
	takesFrom(t, "n of UnRice", 0, maxFrame, func(x int) bool { return areTaken(impl.UnRice(0, make([]int, 500), x)) })
	takesUpTo(t, "MaxFrame of BestRice", maxFrame, func(x int) bool { k, _ := impl.BestRice(onesOf(x)); return k >= 0 })
	takesFrom(t, "MaxFrame of PackFrame", 1, maxFrame, func(x int) bool { return isTaken(impl.PackFrame(onesOf(x))) })
	takesFrom(t, "MaxSample of PackFrame", -maxSample, maxSample, func(x int) bool { return isTaken(impl.PackFrame([]int{x})) })
	takesFrom(t, "size of PackAll", 1, maxFrame, func(x int) bool { return isTaken(impl.PackAll(onesOf(3), x)) })
	takesUpTo(t, "MaxSignal of PackAll", maxSignal, func(x int) bool { return isTaken(impl.PackAll(onesOf(x), 100)) })
	takesUpTo(t, "MaxFrames of OpenAll", maxFrames, func(x int) bool { _, _, code := impl.OpenAll(packAllSlow(onesOf(x), 1)); return code == impl.FrameOk })
	takesUpTo(t, "MaxFrames of Mend", maxFrames, func(x int) bool {
		told, passed := impl.Mend(packAllSlow(onesOf(x), 1))
		return len(told) == x && passed == 0
	})
	takesUpTo(t, "MaxFrames of Seek", maxFrames-1, func(x int) bool { at, _ := impl.Seek(packAllSlow(onesOf(70), 1), x); return at >= 0 })
	frame := packFrameSlow(onesOf(5))
	takesUpTo(t, "MaxFile of OpenAll", maxFile, func(x int) bool {
		told, _, _ := impl.OpenAll(append(slices.Clone(frame), make([]byte, x-len(frame))...))
		return len(told) == 5
	})
	takesUpTo(t, "MaxFile of Mend", maxFile, func(x int) bool { _, passed := impl.Mend(make([]byte, x)); return passed == x })
	takesFrom(t, "place of OpenFrame", 0, 0, func(x int) bool { _, _, code := impl.OpenFrame(frame, x); return code == impl.FrameOk })
}

func TestLimitsOfModems(t *testing.T) {
	m := impl.Modem{Width: 4, Mend: 2, Rows: 4, Seed: 1, Rate: 2, Size: 10}
	for _, width := range pointWidths {
		takesFrom(t, "Width", width, width, func(x int) bool { n := m; n.Width = x; return impl.ModemOk(n) })
	}
	takesFrom(t, "Mend", 1, maxMend, func(x int) bool { n := m; n.Mend = x; return impl.ModemOk(n) })
	takesFrom(t, "Rows", 1, 64, func(x int) bool { n := m; n.Rows = x; return impl.ModemOk(n) })
	takesFrom(t, "Seed", 1, 65535, func(x int) bool { n := m; n.Seed = x; return impl.ModemOk(n) })
	takesFrom(t, "Rate", 1, maxHeld, func(x int) bool { n := m; n.Rate = x; return impl.ModemOk(n) })
	takesFrom(t, "Size", 1, maxSize, func(x int) bool { n := m; n.Size = x; return impl.ModemOk(n) })
	bytes := func(x int) []byte { return make([]byte, max(x, 0)) }
	takesFrom(t, "MaxSent of Send", 1, maxSent, func(x int) bool { return isTaken(impl.Send(m, bytes(x))) })
	takesFrom(t, "MaxSent of Hear", 1, maxSent, func(x int) bool { return areTaken(impl.Hear(m, sendSlow(m, bytes(x)), x)) })
	takesFrom(t, "delay of Air", 0, maxDelay, func(x int) bool { return isTaken(impl.Air(nil, x, 0, nil)) })
	takesFrom(t, "quarter of Air", 0, 3, func(x int) bool { return isTaken(impl.Air(nil, 0, x, nil)) })
	takesUpTo(t, "MaxAir of a burst", maxAir, func(x int) bool { return isTaken(impl.Air(make([]impl.Point, x), 0, 1, nil)) })
	takesUpTo(t, "MaxAir behind a delay", maxAir-100, func(x int) bool { return isTaken(impl.Air(make([]impl.Point, x), 100, 1, nil)) })
	takesUpTo(t, "noise of Air", 12, func(x int) bool { return isTaken(impl.Air(make([]impl.Point, 5), 7, 1, make([]impl.Point, x))) })
	takesFrom(t, "samples of Air", -maxSample, maxSample, func(x int) bool { return isTaken(impl.Air([]impl.Point{{X: x}}, 0, 0, nil)) })
	takesUpTo(t, "what Air tells", 3, func(x int) bool {
		return isTaken(impl.Air([]impl.Point{{Y: maxSample - 3}}, 0, 0, []impl.Point{{Y: x}}))
	})
	burst := sendSlow(m, []byte("limit"))
	takesUpTo(t, "MaxAir of Hear", maxAir, func(x int) bool {
		return areTaken(impl.Hear(m, append(slices.Clone(burst), make([]impl.Point, x-len(burst))...), 5))
	})
	for _, x := range []int{0, 1} {
		_, _, ok := impl.Hear(m, burst[:len(burst)-x], 5)
		if ok != (x == 0) {
			t.Errorf("a burst with %d Points too few is heard %v", x, ok)
		}
	}
}

func TestLimitsOfNets(t *testing.T) {
	one := impl.Wire{From: 0, To: 0, Give: 1, Take: 1}
	of := func(set func(w *impl.Wire, x int)) func(x int) bool {
		return func(x int) bool { w := one; set(&w, x); return impl.WiresOk(5, []impl.Wire{w}) }
	}
	takesFrom(t, "MaxBlocks", 1, maxBlocks, func(x int) bool { return impl.WiresOk(x, nil) })
	takesUpTo(t, "MaxWires", maxWires, func(x int) bool { return impl.WiresOk(1, slices.Repeat([]impl.Wire{one}, x)) })
	takesFrom(t, "From", 0, 4, of(func(w *impl.Wire, x int) { w.From = x }))
	takesFrom(t, "To", 0, 4, of(func(w *impl.Wire, x int) { w.To = x }))
	takesFrom(t, "Give", 1, impl.MaxGive, of(func(w *impl.Wire, x int) { w.Give = x }))
	takesFrom(t, "Take", 1, impl.MaxGive, of(func(w *impl.Wire, x int) { w.Take = x }))
	takesFrom(t, "Have", 0, 1000, of(func(w *impl.Wire, x int) { w.Have = x }))
	takesUpTo(t, "MaxFires of Balance", 39, func(x int) bool {
		return isTaken(impl.Balance(4, []impl.Wire{wired(0, 1, 40, 1), wired(1, 2, 48, 1), wired(0, 3, x, 1)}))
	})
	takesUpTo(t, "MaxFires of Fire", maxFires, func(x int) bool { _, code := impl.Fire(1, nil, make([]int, x)); return code == -1 })
	takesUpTo(t, "MaxFires of Room", maxFires, func(x int) bool { return isTaken(impl.Room(1, nil, make([]int, x))) })
	takesFrom(t, "block of Fire", 0, 3, func(x int) bool { _, code := impl.Fire(4, nil, []int{x}); return code == -1 })
	takesFrom(t, "Take of Fire", 1, 7, func(x int) bool {
		_, code := impl.Fire(1, []impl.Wire{{Give: 1, Take: x, Have: 7}}, []int{0})
		return code == -1
	})
	takesFrom(t, "costs of Latency", 0, 1000, func(x int) bool { return isTaken(impl.Latency(2, nil, []int{1, x})) })
	takesFrom(t, "how many costs", 3, 3, func(x int) bool { return isTaken(impl.Latency(3, nil, onesOf(x))) })
	takesUpTo(t, "stuck or not", 7, func(x int) bool { return isTaken(impl.Line(1, []impl.Wire{{Give: x, Take: x, Have: 7}})) })
}

func TestLimitsOfQuantities(t *testing.T) {
	of := func(set func(q *impl.Qty, x int)) func(x int) bool {
		return func(x int) bool { q := impl.Qty{Num: 3}; set(&q, x); return impl.QtyOk(q) }
	}
	takesFrom(t, "Pow", -30, 30, of(func(q *impl.Qty, x int) { q.Pow = x }))
	takesFrom(t, "Volt", -9, 9, of(func(q *impl.Qty, x int) { q.Volt = x }))
	takesFrom(t, "Sec", -9, 9, of(func(q *impl.Qty, x int) { q.Sec = x }))
	// MaxSample itself is a multiple of 10, and not right.
	for num, want := range map[int]bool{999999999: true, -999999999: true, 1000000001: false, -1000000001: false, 1000000000: false, -1000000000: false} {
		qtyIs(t, impl.Qty{Num: num}, want)
	}
	takesUpTo(t, "digits of ReadQty", 9, func(x int) bool { return isTaken(impl.ReadQty(strings.Repeat("7", x) + "V")) })
	takesUpTo(t, "digits behind a point", 8, func(x int) bool { return isTaken(impl.ReadQty("0." + strings.Repeat("7", x))) })
	takesFrom(t, "power of a unit", 2, 9, func(x int) bool { return isTaken(impl.ReadQty("3 V" + textOfInts(x))) })
	takesFrom(t, "power of a unit below 0", -9, -1, func(x int) bool { return isTaken(impl.ReadQty("3 s" + textOfInts(x))) })
	takesUpTo(t, "digits of ShowQty", 8, func(x int) bool { return impl.ShowQty(impl.Qty{Num: 1, Pow: x}) != "" })
	takesFrom(t, "digits of ShowQty behind a point", -8, 8, func(x int) bool { return impl.ShowQty(impl.Qty{Num: 1, Pow: x}) != "" })
	takesFrom(t, "powers of a sum", -9, 9, func(x int) bool { return isTaken(impl.AddQty(impl.Qty{Num: 1}, impl.Qty{Num: -1, Pow: x})) })
	takesFrom(t, "units of a product", -9, 9, func(x int) bool {
		return isTaken(impl.MulQty(impl.Qty{Num: 1, Volt: x - x/2}, impl.Qty{Num: 1, Volt: x / 2}))
	})
	takesFrom(t, "powers of a product", -30, 30, func(x int) bool {
		return isTaken(impl.MulQty(impl.Qty{Num: 1, Pow: x - x/2}, impl.Qty{Num: 1, Pow: x / 2}))
	})
}

// nodesNamed are as many NodeAdds as are asked for, which have no links yet.
func nodesNamed(count int, name func(at int) string) []impl.Node {
	nodes := []impl.Node{}
	for at := range count {
		nodes = append(nodes, impl.Node{Name: name(at), Kind: impl.NodeAdd})
	}
	return nodes
}

func shortName(at int) string { return string(rune('a' + at)) }

func TestLimitsOfScripts(t *testing.T) {
	takesFrom(t, "runes of a name", 1, 12, func(x int) bool { return impl.NodeName(strings.Repeat("\u03c9", x)) })
	takesFrom(t, "MaxNodes", 1, maxNodes, func(x int) bool { return impl.PlanOk(planOf(sources(max(x, 0)))) })
	// With all nodes NodeAdds there are just MaxWires links, and with the longest names just MaxScript bytes.
	long := func(at int) string { return strings.Repeat("\u03c9", 11) + string(rune(913+at)) }
	for _, name := range []func(at int) string{shortName, long} {
		// The rune 930 is no letter.
		p := planOf(append(nodesNamed(17, name), nodesNamed(maxNodes+1, name)[18:]...))
		for at := range p.Nodes {
			p.Links = append(p.Links, linked(0, at), linked(at, at))
		}
		// A line has ten bytes besides its names.
		most := 10*(maxNodes+maxWires) + (maxNodes+2*maxWires)*len(name(0))
		if text := impl.ShowPlan(p); !impl.PlanOk(p) || len(p.Links) != maxWires || len(text) != most || most > maxScript {
			t.Errorf("%d links are shown in %d bytes, not %d", len(p.Links), len(text), most)
		}
		p.Links = append(p.Links, linked(0, 1))
		if impl.PlanOk(p) {
			t.Error("a link too many is taken")
		}
	}
	takesUpTo(t, "MaxScript", maxScript, func(x int) bool {
		text := "node a in\n#" + strings.Repeat("x", x-12) + "\n"
		_, code := impl.ParsePlan(text)
		return code == 0 && len(text) == x
	})
	for kind, ends := range map[int][2]int{impl.NodeGain: {-1000, 1000}, impl.NodeDelay: {1, 64}, impl.NodeUp: {1, 64}, impl.NodeDown: {1, 64}, impl.NodeFold: {1, 64}} {
		takesFrom(t, "N of "+kindWords()[kind], ends[0], ends[1], func(x int) bool { return impl.PlanOk(between(kind, x)) })
	}
	for _, kind := range []int{impl.NodeIn, impl.NodeOut, impl.NodeAdd} {
		takesFrom(t, "N of "+kindWords()[kind], 0, 0, func(x int) bool {
			p := planOf([]impl.Node{{Name: "a", Kind: impl.NodeIn}, {Name: "b", Kind: kind, N: x}}, linked(0, 1), linked(0, 1))
			p.Links = p.Links[:doorsSlow(kind)]
			return impl.PlanOk(p)
		})
	}
	takesFrom(t, "kinds", impl.NodeIn, impl.NodeFold, func(x int) bool {
		p := planOf([]impl.Node{{Name: "a", Kind: impl.NodeIn}, {Name: "b", Kind: x}}, linked(0, 1), linked(0, 1))
		if x > impl.NodeAdd {
			p.Nodes[1].N = 1
		}
		if x >= impl.NodeIn && x <= impl.NodeFold {
			p.Links = p.Links[:doorsSlow(x)]
		}
		return impl.PlanOk(p)
	})
	takesFrom(t, "doors of a NodeAdd", 2, 2, func(x int) bool {
		return impl.PlanOk(planOf([]impl.Node{{Name: "a", Kind: impl.NodeIn}, {Name: "b", Kind: impl.NodeAdd}}, slices.Repeat([]impl.Link{linked(0, 1)}, x)...))
	})
}

// firesAlot fires so often in a round: once its source, and more often what is behind two NodeUps.
func firesAlot(up, outs int) impl.Plan {
	nodes := append(sources(1), impl.Node{Name: "up", Kind: impl.NodeUp, N: 6}, impl.Node{Name: "more", Kind: impl.NodeUp, N: up}, impl.Node{Name: "out", Kind: impl.NodeOut})
	p := planOf(nodes, linked(0, 1), linked(1, 2), linked(2, 3))
	for at := range outs {
		p.Nodes = append(p.Nodes, impl.Node{Name: "o" + textOfInts(at), Kind: impl.NodeOut})
		p.Links = append(p.Links, linked(0, 4+at))
	}
	return p
}

func TestLimitsOfRuns(t *testing.T) {
	p, in := between(impl.NodeGain, 2), [][]int{{5}}
	takesFrom(t, "MaxTurns of Play", 0, maxTurns, func(x int) bool { return isTaken(impl.Play(p, in, x)) })
	takesFrom(t, "MaxTurns of PlayMany", 0, maxTurns, func(x int) bool { return isTaken(impl.PlayMany(p, in, x, 2)) })
	takesFrom(t, "MaxTurns of Tally", 0, maxTurns, func(x int) bool { return isTaken(impl.Tally(p, x, 2)) })
	takesFrom(t, "MaxTurns of Probe", 0, maxTurns, func(x int) bool { return isTaken(impl.Probe(p, in, x, 1)) })
	takesFrom(t, "workers of PlayMany", 1, maxWorkers, func(x int) bool { return isTaken(impl.PlayMany(p, in, 3, x)) })
	takesFrom(t, "workers of Tally", 1, maxWorkers, func(x int) bool { return isTaken(impl.Tally(p, 3, x)) })
	takesFrom(t, "node of Probe", 0, 2, func(x int) bool { return isTaken(impl.Probe(p, in, 3, x)) })
	takesFrom(t, "how many inputs", 1, 1, func(x int) bool { return isTaken(impl.Play(p, slices.Repeat(in, x), 3)) })
	takesUpTo(t, "MaxSignal of inputs", maxSignal, func(x int) bool { return isTaken(impl.Play(p, [][]int{onesOf(x)}, 3)) })
	takesFrom(t, "MaxSample of inputs", -maxSample, maxSample, func(x int) bool { return isTaken(impl.PlayMany(p, [][]int{{x}}, 3, 2)) })
	takesUpTo(t, "MaxFires of PlayBy", maxFires, func(x int) bool { _, code := impl.PlayBy(p, in, make([]int, x)); return code == -1 })
	// 50 rounds of 400 fires are 20000, and 59 of 339 one more.
	for _, fires := range []struct {
		plan   impl.Plan
		rounds int
		ok     bool
	}{{firesAlot(64, 8), 50, true}, {firesAlot(64, 8), 51, false}, {firesAlot(54, 7), 58, true}, {firesAlot(54, 7), 59, false}} {
		if isTaken(impl.Play(fires.plan, in, fires.rounds)) != fires.ok || isTaken(impl.PlayMany(fires.plan, in, fires.rounds, 3)) != fires.ok || isTaken(impl.Tally(fires.plan, fires.rounds, 3)) != fires.ok || isTaken(impl.Probe(fires.plan, in, fires.rounds, 1)) != fires.ok {
			t.Errorf("%d rounds of %v are not told %v", fires.rounds, fires.plan, fires.ok)
		}
	}
	takesFrom(t, "capacity of Dropped", 1, maxRing, func(x int) bool { return areTaken(impl.Dropped(x, onesOf(2), onesOf(2))) })
	takesFrom(t, "gives of Dropped", 0, maxRing, func(x int) bool { return areTaken(impl.Dropped(5, []int{x}, onesOf(1))) })
	takesFrom(t, "takes of Dropped", 0, maxRing, func(x int) bool { return areTaken(impl.Dropped(5, onesOf(1), []int{x})) })
	takesUpTo(t, "MaxSignal of Dropped", maxSignal, func(x int) bool { return areTaken(impl.Dropped(5, onesOf(x), onesOf(x))) })
	takesFrom(t, "as many takes", 3, 3, func(x int) bool { return areTaken(impl.Dropped(5, onesOf(3), onesOf(x))) })
}

// A number of 10^15 in size is given, and one more made 0.
func TestLimitsOfWhatIsGiven(t *testing.T) {
	nodes := append(sources(2), impl.Node{Name: "g", Kind: impl.NodeGain, N: 1000}, impl.Node{Name: "h", Kind: impl.NodeGain, N: 1000}, impl.Node{Name: "sum", Kind: impl.NodeAdd}, impl.Node{Name: "out", Kind: impl.NodeOut})
	p := planOf(nodes, linked(0, 2), linked(2, 3), linked(3, 4), linked(1, 4), linked(4, 5))
	takesUpTo(t, "what is given", 0, func(x int) bool {
		rows, _ := impl.Play(p, [][]int{{maxSample}, {x}}, 1)
		return rows[0][0] == maxKept+x
	})
	takesUpTo(t, "what is given below 0", 0, func(x int) bool {
		rows, _ := impl.Play(p, [][]int{{-maxSample}, {-x}}, 1)
		return rows[0][0] == -maxKept-x
	})
}

func TestLimitsOfBenches(t *testing.T) {
	isSaid := func(text string) bool { return !strings.Contains("\n"+impl.Session(text), "\nno\n") }
	takesUpTo(t, "MaxBench", maxBench, func(x int) bool { return impl.Session("#"+strings.Repeat("x", x-1)) == "" })
	takesUpTo(t, "MaxBench of Signals", maxBench, func(x int) bool { return len(impl.Signals("signal a 1\n#"+strings.Repeat("x", x-12))) == 1 })
	takesUpTo(t, "MaxBenchLines", maxBenchLines, func(x int) bool { return impl.Session(strings.Repeat("\n", x)) == "" })
	takesUpTo(t, "MaxBenchLines of Signals", maxBenchLines, func(x int) bool { return len(impl.Signals("signal a 1"+strings.Repeat("\n", x))) == 1 })
	takesUpTo(t, "MaxBenchLines without the last line end", maxBenchLines, func(x int) bool { return impl.Session(strings.Repeat("\n", x-1)+"#") == "" })
	takesUpTo(t, "MaxNamed", maxNamed, func(x int) bool { return isSaid(linesOf(namedLines(x)...)) })
	takesUpTo(t, "MaxSignal of a signal", maxSignal, func(x int) bool { return isSaid(signalLine("a", onesOf(x))) })
	takesFrom(t, "numbers of a signal", 1, maxSignal, func(x int) bool { return isSaid("signal a" + strings.Repeat(" 7", max(x, 0))) })
	takesFrom(t, "decimals", -9999999999, 9999999999, func(x int) bool { return isSaid("signal a " + textOfInts(x)) })
	takesUpTo(t, "runes of a name", 12, func(x int) bool { return isSaid("signal " + strings.Repeat("\u00e9", x) + " 1") })
	takesUpTo(t, "greatest number", 0, func(x int) bool { return isSaid(loudAhead + "signal b " + textOfInts(x) + "\nadd a loud b") })
	takesUpTo(t, "least number", 0, func(x int) bool { return isSaid(loudAhead + "signal b " + textOfInts(-x) + "\nadd a low b") })
	takesUpTo(t, "MaxSignal of join", 256, func(x int) bool { return isSaid("tone a 0 1 256\ntone b 0 1 " + textOfInts(x) + "\njoin c a b") })
	takesUpTo(t, "MaxSignal of rate", 64, func(x int) bool { return isSaid("tone a 0 1 " + textOfInts(x) + "\nrate b a 8 1") })
	takesFrom(t, "COUNT of tone", 0, maxSignal, func(x int) bool { return isSaid("tone a 0 1 " + textOfInts(x)) })
	takesFrom(t, "ROUNDS of plan", 0, maxTurns, func(x int) bool { return isSaid(planText("o", x, "", "node d delay 1", "link d -> d")) })
	takesFrom(t, "COUNT of hear", 1, maxSent, func(x int) bool {
		return isSaid(signalLine("s", flat(sendSlow(benchModem(4, 2), []byte(strings.Repeat("a", max(x, 1)))))) + "\nhear s 4 2 " + textOfInts(x))
	})
	takesFrom(t, "bytes of a word", 1, maxSent, func(x int) bool { return isSaid("send s 4 2 " + strings.Repeat("a", max(x, 0))) })
	takesFrom(t, "bytes that are heard", 33, 126, func(x int) bool {
		return isSaid(signalLine("s", flat(sendSlow(benchModem(4, 2), []byte{byte(x)}))) + "\nhear s 4 2 1")
	})
}
