package tests

import (
	"slices"
	"testing"

	"loop.example/g00043/impl"
)

// bothNew writes over both lists of an answer, and asks whether one has felt the other, or another answer has felt them.
func bothNew(t *testing.T, what string, call func() ([]int, []int, bool)) {
	t.Helper()
	first, second, ok := call()
	if !ok {
		t.Fatalf("%s is refused", what)
	}
	want, wantSecond := slices.Clone(first), slices.Clone(second)
	overwrite(t, [][]int{first, second})
	again, secondAgain, ok := call()
	holdBoth(t, what+", again,", again, secondAgain, ok, want, wantSecond)
}

func TestFilterFirAnswersAreNewMemory(t *testing.T) {
	g := formSource(1051)
	for name, call := range firs {
		for _, n := range tapCounts {
			for _, length := range lengthsAbout(n - 1) {
				untouchedInts(t, name, g.signal(maxTap, n), func(taps []int) {
					untouchedInts(t, name, g.signal(maxSample, n-1), func(state []int) {
						untouchedInts(t, name, g.signal(maxSample, length), func(list []int) {
							bothNew(t, name, func() ([]int, []int, bool) { return call(taps, state, list) })
						})
					})
				})
			}
		}
	}
}

// Taps, state and list may be pieces of one list, that reach over one another.
func TestFilterFirOfOneList(t *testing.T) {
	g := formSource(1052)
	for name, call := range firs {
		for _, n := range tapCounts {
			untouchedInts(t, name, g.signal(1000, 2*n), func(all []int) {
				want, behind := firSlow(slices.Clone(all[:n]), slices.Clone(all[1:n]), slices.Clone(all))
				got, gotBehind, ok := call(all[:n], all[1:n], all)
				holdBoth(t, name+" of pieces", got, gotBehind, ok, want, behind)
				overwrite(t, [][]int{got, gotBehind})
			})
		}
	}
}

func TestFilterSumsAreNewMemory(t *testing.T) {
	g := formSource(1053)
	for _, n := range []int{0, 1, 2, 31, 32, 100, maxSignal} {
		for _, back := range []int{1, 2, 32, maxSignal} {
			newMemory(t, "Comb", g.signal(maxSample, n), func(list []int) ([]int, bool) { return impl.Comb(list, back) })
			newMemory(t, "Gather", g.signal(maxSample, n), func(list []int) ([]int, bool) { return impl.Gather(list, back) })
		}
		for _, rate := range []int{1, 2, 32} {
			for _, stages := range []int{1, maxStages} {
				newMemory(t, "Cic", g.signal(maxNarrow, n), func(list []int) ([]int, bool) { return impl.Cic(list, rate, stages) })
			}
		}
		for _, size := range []int{1, 3, 31} {
			newMemory(t, "Middle", g.signal(maxSample, n), func(list []int) ([]int, bool) { return impl.Middle(list, size) })
		}
	}
}

func TestFilterSectionsAnswersAreNewMemory(t *testing.T) {
	g := formSource(1054)
	for _, n := range []int{0, 1, 2, 3, 100, maxSignal} {
		s, p := g.section(), g.past(maxTap)
		newMemory(t, "Iir", g.signal(maxTap, n), func(list []int) ([]int, bool) {
			told, _, ok := impl.Iir(s, p, list)
			return told, ok
		})
		for _, count := range []int{0, 1, 2, maxTaps} {
			room := []impl.Section{}
			for range count + 2 {
				room = append(room, g.section())
			}
			ahead := slices.Clone(room)
			newMemory(t, "Chain", g.signal(maxTap, n), func(signal []int) ([]int, bool) { return impl.Chain(room[:count], signal) })
			if !slices.Equal(room, ahead) {
				t.Errorf("Chain has written into its sections: %v", room)
			}
		}
	}
}

func TestFilterAdaptAnswersAreNewMemory(t *testing.T) {
	g := formSource(1055)
	for _, taps := range []int{1, 2, maxTaps} {
		for _, n := range []int{0, 1, 2, 100} {
			untouchedInts(t, "Adapt", g.signal(maxNarrow, n), func(list []int) {
				untouchedInts(t, "Adapt", g.signal(maxNarrow, n), func(want []int) {
					bothNew(t, "Adapt", func() ([]int, []int, bool) { return impl.Adapt(taps, 14, list, want) })
				})
				bothNew(t, "Adapt to itself", func() ([]int, []int, bool) { return impl.Adapt(taps, 14, list, list) })
			})
		}
	}
}

// What is refused is not written into either, nor handed out.
func TestFilterRefusedArgumentsStay(t *testing.T) {
	wrong := impl.Section{B0: maxFactor + 1}
	for _, list := range append(noSignals(), []int{1, 2, 3}, []int{}, []int{5}) {
		untouchedInts(t, "what is refused", list, func(piece []int) {
			for _, call := range firs {
				for _, args := range [][3][]int{{piece, piece, piece}, {{1}, piece, piece}, {{1}, nil, piece}, {{1, 2}, piece, {1}}, {piece, nil, nil}} {
					got, behind, _ := call(args[0], args[1], args[2])
					overwrite(t, [][]int{got, behind})
				}
			}
			told, _, _ := impl.Iir(wrong, impl.Past{}, piece)
			more, _, _ := impl.Iir(impl.Section{}, impl.Past{E: -1}, piece)
			errors, behind, _ := impl.Adapt(0, 1, piece, piece)
			overwrite(t, [][]int{told, more, errors, behind})
			overwrite(t, [][]int{
				listOf(impl.Comb(piece, 1)), listOf(impl.Comb(piece, 0)), listOf(impl.Gather(piece, 1)), listOf(impl.Gather(piece, 0)), listOf(impl.Cic(piece, 1, 1)), listOf(impl.Cic(piece, 0, 1)), listOf(impl.Cic(piece, 1, 0)),
				listOf(impl.Chain(nil, piece)), listOf(impl.Chain([]impl.Section{wrong}, piece)), listOf(impl.Middle(piece, 1)), listOf(impl.Middle(piece, 2)),
			})
		})
	}
}

// Nothing is kept: what is asked in between changes no answer.
func TestFilterKeepsNothing(t *testing.T) {
	g := formSource(1056)
	taps, list := g.signal(1000, 5), g.signal(1000, 30)
	s := g.calmSection()
	first, state, _ := impl.Fir(taps, make([]int, 4), list)
	told, past, _ := impl.Iir(s, impl.Past{}, list)
	errors, weights, _ := impl.Adapt(5, 14, list, list)
	sums, _ := impl.Gather(list, 3)
	for range 3 {
		impl.FirTurned(taps, state, list)
		impl.Iir(s, past, list)
		impl.Adapt(5, 3, list, first[:0])
		impl.Comb(list, 3)
		got, behind, ok := impl.Fir(taps, make([]int, 4), list)
		holdBoth(t, "Fir, again,", got, behind, ok, first, state)
		again, pastAgain, ok := impl.Iir(s, impl.Past{}, list)
		holdPast(t, "Iir, again,", again, pastAgain, ok, told, past)
		got, behind, ok = impl.Adapt(5, 14, list, list)
		holdBoth(t, "Adapt, again,", got, behind, ok, errors, weights)
		got, ok = impl.Gather(list, 3)
		holdSignal(t, "Gather, again,", got, ok, sums)
	}
}
