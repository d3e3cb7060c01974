package tests

import (
	"slices"
	"testing"

	"loop.example/g00043/impl"
)

// newEachTime writes over an answer, and asks whether the next one has felt it.
func newEachTime(t *testing.T, what string, call func() ([]int, bool)) {
	t.Helper()
	newMemory(t, what, nil, func([]int) ([]int, bool) { return call() })
}

func TestWaveAnswersAreNewMemory(t *testing.T) {
	for _, n := range []int{0, 1, 2, 65, 256, maxSignal} {
		for _, step := range []int{0, 1, 64} {
			newEachTime(t, "Tone", func() ([]int, bool) { return impl.Tone(step, 3, one/2, n) })
		}
	}
	for _, kind := range windowKinds {
		for _, n := range []int{1, 2, 65, 256, maxSignal} {
			newEachTime(t, "Window", func() ([]int, bool) { return impl.Window(kind, n) })
		}
	}
	for step := range 256 {
		circleHolds(t, step)
	}
}

func TestWaveArgumentsStay(t *testing.T) {
	g := formSource(731)
	for _, n := range []int{0, 1, 2, 3, 64, maxSignal} {
		list := g.signal(maxTap, n)
		for _, kind := range windowKinds {
			newMemory(t, "Taper", list, func(list []int) ([]int, bool) { return impl.Taper(kind, list) })
		}
		untouchedInts(t, "Bin", list, func(piece []int) { binHolds(t, piece, 37) })
		untouchedInts(t, "Loudest", list, func(piece []int) {
			step, ok := impl.Loudest(slices.Clone(list))
			if again, okAgain := impl.Loudest(piece); again != step || okAgain != ok || !ok {
				t.Errorf("Loudest is %d %v, and %d %v with more behind it", step, ok, again, okAgain)
			}
		})
	}
}

// What is refused is not written into either, nor handed out.
func TestWaveRefusedArgumentsStay(t *testing.T) {
	lists := append(noSignals(), noTaps()...)
	for _, list := range append(lists, []int{}, []int{1, 2, 3}) {
		untouchedInts(t, "what is refused", list, func(piece []int) {
			impl.Bin(piece, 5)
			impl.Bin(piece, maxSample+1)
			impl.Loudest(piece)
			for _, got := range [][]int{listOf(impl.Taper(0, piece)), listOf(impl.Taper(impl.WindowFlat, piece)), listOf(impl.Taper(5, piece))} {
				full := got[:cap(got)]
				for i := range full {
					full[i] = -9
				}
			}
		})
	}
}
