package tests

import (
	"testing"

	"loop.example/g00043/impl"
)

func TestRateAnswersAreNewMemory(t *testing.T) {
	g := formSource(1141)
	for _, n := range []int{0, 1, 2, 3, 32} {
		for _, by := range []int{1, 2, maxRate} {
			newMemory(t, "Up", g.signal(maxSample, n), func(list []int) ([]int, bool) { return impl.Up(list, by) })
		}
	}
	for _, n := range []int{0, 1, 2, 3, 100, maxSignal} {
		for _, by := range []int{1, 2, maxRate} {
			for _, phase := range []int{0, by - 1} {
				newMemory(t, "Down", g.signal(maxSample, n), func(list []int) ([]int, bool) { return impl.Down(list, by, phase) })
			}
		}
		for _, num := range []int{1, 2, 7, maxTap} {
			newMemory(t, "Drift", g.signal(maxSample, n), func(list []int) ([]int, bool) { return impl.Drift(list, num, 1, 0) })
			newMemory(t, "Delay", g.signal(maxSample, n), func(list []int) ([]int, bool) { return impl.Delay(list, num, 2) })
		}
		newMemory(t, "Drift", g.signal(maxSample, n), func(list []int) ([]int, bool) { return impl.Drift(list, 5, 4, 3) })
		newMemory(t, "Delay", g.signal(maxSample, n), func(list []int) ([]int, bool) { return impl.Delay(list, 0, 1) })
	}
}

func TestRateRationalAnswersAreNewMemory(t *testing.T) {
	g := formSource(1142)
	for _, n := range []int{1, 2, 20, maxTaps} {
		for _, length := range []int{0, 1, n, 100} {
			for _, rates := range [][2]int{{1, 1}, {2, 1}, {1, 2}, {3, 2}, {maxRate, maxRate}} {
				call := func(list []int, taps []int) ([]int, bool) { return impl.Rational(list, taps, rates[0], rates[1]) }
				list := g.signal(maxTap, length)
				newMemoryOfBoth(t, "Rational", list, g.signal(maxTap, n), call)
				newMemoryOfBoth(t, "Rational with taps of one", list, []int{1}, call)
				if length == n {
					newMemoryOfBoth(t, "Rational of its taps", list, list, call)
				}
			}
		}
	}
}

// pushed has the lists of an answer of Push, whose place is held by other tests.
func pushed(cells []int, at int, list []int) ([]int, []int, bool) {
	r, told, ok := impl.Push(impl.Ring{Cells: cells, At: at}, list)
	return r.Cells, told, ok
}

func TestRatePushAnswersAreNewMemory(t *testing.T) {
	g := formSource(1143)
	for _, n := range ringSizes {
		for _, at := range []int{0, n - 1} {
			for _, length := range []int{0, 1, 2, n - 1, n, min(n+1, maxSignal), maxSignal} {
				untouchedInts(t, "Push", g.signal(maxSample, n), func(cells []int) {
					untouchedInts(t, "Push", g.signal(maxSample, length), func(list []int) {
						bothNew(t, "Push", func() ([]int, []int, bool) { return pushed(cells, at, list) })
					})
					bothNew(t, "Push of its cells", func() ([]int, []int, bool) { return pushed(cells, at, cells) })
				})
			}
		}
	}
}

// Cells and list may be pieces of one list, that reach over one another.
func TestRatePushOfOneList(t *testing.T) {
	g := formSource(1144)
	for n := 1; n <= 8; n++ {
		for at := range n {
			for from := range n {
				untouchedInts(t, "Push", g.signal(maxSample, 2*n), func(all []int) {
					r := impl.Ring{Cells: all[:n], At: at}
					pushHolds(t, r, all[from:])
					bothNew(t, "Push of pieces", func() ([]int, []int, bool) { return pushed(all[:n], at, all[from:]) })
				})
			}
		}
	}
}

func TestRateTapLeavesItsRing(t *testing.T) {
	g := formSource(1145)
	for _, n := range ringSizes {
		untouchedInts(t, "Tap", g.signal(maxSample, n), func(cells []int) {
			for _, at := range []int{0, n - 1, n, -1} {
				for _, back := range []int{0, 1, n, n + 1} {
					impl.Tap(impl.Ring{Cells: cells, At: at}, back)
				}
			}
		})
	}
}

// What is refused is not written into either, nor handed out.
func TestRateRefusedArgumentsStay(t *testing.T) {
	for _, list := range append(noSignals(), []int{1, 2, 3}, []int{}, []int{5}) {
		untouchedInts(t, "what is refused", list, func(piece []int) {
			overwrite(t, [][]int{
				listOf(impl.Up(piece, 1)), listOf(impl.Up(piece, 0)), listOf(impl.Up(piece, maxRate)), listOf(impl.Down(piece, 1, 0)), listOf(impl.Down(piece, 1, 1)), listOf(impl.Down(piece, 0, 0)),
				listOf(impl.Rational(piece, piece, 1, 1)), listOf(impl.Rational(piece, []int{1}, 1, 0)), listOf(impl.Rational([]int{1}, piece, 0, 1)), listOf(impl.Drift(piece, 1, 1, 0)), listOf(impl.Drift(piece, 1, 1, 1)), listOf(impl.Drift(piece, 1, maxTap, 0)), listOf(impl.Delay(piece, 0, 1)), listOf(impl.Delay(piece, 0, 0)),
			})
			for _, at := range []int{-1, 0, len(piece), len(piece) + 1} {
				cells, told, _ := pushed(piece, at, piece)
				more, toldMore, _ := pushed([]int{1, 2}, at, piece)
				overwrite(t, [][]int{cells, told, more, toldMore})
			}
		})
	}
}

// Nothing is kept: what is asked in between changes no answer, and a ring that was handed in goes on as it was.
func TestRateKeepsNothing(t *testing.T) {
	g := formSource(1146)
	list, taps, r := g.signal(1000, 30), g.signal(1000, 5), g.ring(1000, 7)
	dense, _ := impl.Up(list, 3)
	between, _ := impl.Rational(list, taps, 3, 2)
	drifted, _ := impl.Drift(list, 3, 4, 1)
	late, _ := impl.Delay(list, 3, 4)
	behind, told, _ := impl.Push(r, list)
	for range 3 {
		impl.Up(dense, 17)
		impl.Down(list, 3, 1)
		impl.Rational(list, taps, 0, 2)
		impl.Drift(list, 1, maxTap, 0)
		impl.Delay(list, -1, 4)
		impl.Push(behind, list)
		got, ok := impl.Up(list, 3)
		holdSignal(t, "Up, again,", got, ok, dense)
		got, ok = impl.Rational(list, taps, 3, 2)
		holdSignal(t, "Rational, again,", got, ok, between)
		got, ok = impl.Drift(list, 3, 4, 1)
		holdSignal(t, "Drift, again,", got, ok, drifted)
		got, ok = impl.Delay(list, 3, 4)
		holdSignal(t, "Delay, again,", got, ok, late)
		again, toldAgain, ok := impl.Push(r, list)
		holdRing(t, "Push, again,", again, toldAgain, ok, behind, told)
	}
}
