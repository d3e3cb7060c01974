package tests

import (
	"math"
	"slices"
	"testing"

	"loop.example/g00043/impl"
)

func TestFixedSignals(t *testing.T) {
	const most = impl.MaxSample
	for _, list := range [][]int{
		nil, {}, {0}, {most}, {-most}, {most - 1, 1 - most}, {0, most, 0, -most}, make([]int, impl.MaxSignal-1), make([]int, impl.MaxSignal),
		slices.Repeat([]int{most}, impl.MaxSignal), slices.Repeat([]int{-most}, impl.MaxSignal), make([]int, 3, 5000), make([]int, 5000)[:impl.MaxSignal],
	} {
		if !impl.SignalOk(list) {
			t.Errorf("%d samples, %v.., are no signal", len(list), list[:min(4, len(list))])
		}
	}
	for _, list := range noSignals() {
		if impl.SignalOk(list) {
			t.Errorf("%d numbers, %v.., are a signal", len(list), list[:min(4, len(list))])
		}
	}
	if !impl.SignalOk([]int{1, math.MaxInt}[:1]) {
		t.Error("what is behind a list counts")
	}
}

func shapeHolds(t *testing.T, list []int, by int) {
	t.Helper()
	told, ok := impl.ShapeNoise(list, by)
	holdSignal(t, "ShapeNoise", told, ok, shapeBig(list, by))
}

func TestFixedShapedByHand(t *testing.T) {
	for _, c := range []struct {
		list []int
		by   int
		want []int
	}{
		{nil, 1, []int{}}, {[]int{}, 20, []int{}}, {[]int{1, 1, 1, 1}, 2, []int{0, 1, 0, 0}}, {[]int{-1, -1, -1, -1, -1}, 2, []int{0, 0, -1, 0, 0}},
		{[]int{1, 1, 1, 1}, 1, []int{1, 0, 1, 0}}, {[]int{-1, -1, -1, -1}, 1, []int{0, -1, 0, -1}}, {[]int{-3, -3}, 1, []int{-1, -2}}, {[]int{5, -5, 5}, 1, []int{3, -3, 3}}, {[]int{7}, 20, []int{0}},
		{[]int{1 << 19}, 20, []int{1}}, {[]int{1<<19 - 1, 1}, 20, []int{0, 1}}, {[]int{-1 << 19, -1}, 20, []int{0, -1}}, {[]int{-1<<19 - 1}, 20, []int{-1}},
		{[]int{impl.MaxSample, impl.MaxSample}, 1, []int{impl.MaxSample / 2, impl.MaxSample / 2}}, {[]int{-impl.MaxSample, -impl.MaxSample}, 20, []int{-954, -953}},
	} {
		told, ok := impl.ShapeNoise(c.list, c.by)
		holdSignal(t, "ShapeNoise", told, ok, c.want)
	}
}

// Behind each sample what was told, 2^by times, is off what came in by at most half a step.
func shapeStaysNear(t *testing.T, list []int, by int) {
	t.Helper()
	told, ok := impl.ShapeNoise(list, by)
	if !ok || len(told) != len(list) || !impl.SignalOk(told) {
		t.Fatalf("ShapeNoise of %v by %d is %v %v", list, by, told, ok)
	}
	open := 0
	for i, x := range list {
		open += x - told[i]<<by
		if open < -1<<(by-1) || open > 1<<(by-1) {
			t.Errorf("behind %d of %v by %d, %d is not told", i+1, list, by, open)
		}
	}
}

func TestFixedShapedStaysNear(t *testing.T) {
	g := formSource(521)
	for by := 1; by <= 20; by++ {
		for _, count := range []int{0, 1, 2, 3, 10, 100} {
			for _, most := range []int{1, 1 << by, impl.MaxSample} {
				for range 4 {
					list := g.signal(most, count)
					shapeHolds(t, list, by)
					shapeStaysNear(t, list, by)
				}
			}
		}
		for _, x := range []int{impl.MaxSample, -impl.MaxSample, 1<<(by-1) - 1, 1 << (by - 1), -1 << (by - 1), -1<<(by-1) - 1} {
			list := slices.Repeat([]int{x}, impl.MaxSignal)
			shapeHolds(t, list, by)
			shapeStaysNear(t, list, by)
		}
	}
}

func TestFixedShapedThatIsNone(t *testing.T) {
	for _, by := range []int{0, -1, -2, 21, 22, 60, 64, 1 << 32, 1<<32 + 1, math.MaxInt, math.MinInt} {
		for _, list := range [][]int{nil, {5}, {5, -100, 1 << 20}} {
			told, ok := impl.ShapeNoise(list, by)
			noSignal(t, "ShapeNoise in no steps", told, ok)
		}
	}
	for _, list := range noSignals() {
		for _, by := range []int{1, 7, 20, 0, 21} {
			told, ok := impl.ShapeNoise(list, by)
			noSignal(t, "ShapeNoise of no signal", told, ok)
		}
	}
}

func TestFixedRampsByHand(t *testing.T) {
	const most = impl.MaxSample
	for _, c := range []struct{ steps, ramp []int }{
		{[]int{}, []int{}}, {[]int{5}, []int{5}}, {[]int{-most}, []int{-most}}, {[]int{1, -2, 5}, []int{1, -1, 4}}, {[]int{0, 0, 0}, []int{0, 0, 0}},
		{[]int{most - 1, 1}, []int{most - 1, most}}, {[]int{1 - most, -1}, []int{1 - most, -most}}, {[]int{most, -most, -most, most}, []int{most, 0, -most, 0}},
		{[]int{1, most - 1, -most}, []int{1, most, 0}}, {[]int{-1, 1 - most, most, 0}, []int{-1, -most, 0, 0}}, {[]int{-1, most}, []int{-1, most - 1}}, {[]int{1, -most}, []int{1, 1 - most}},
	} {
		ramp, ok := impl.Ramp(c.steps)
		holdSignal(t, "Ramp", ramp, ok, c.ramp)
		steps, ok := impl.Steps(c.ramp)
		holdSignal(t, "Steps", steps, ok, c.steps)
	}
	ramp, ok := impl.Ramp(nil)
	holdSignal(t, "Ramp of nothing", ramp, ok, nil)
	steps, ok := impl.Steps(nil)
	holdSignal(t, "Steps of nothing", steps, ok, nil)
}

func TestFixedRampsThatAreNone(t *testing.T) {
	const most = impl.MaxSample
	for _, list := range [][]int{
		{most, 1}, {-most, -1}, {1, most}, {-1, -most}, {0, most, 1}, {most, 1, -1}, {-most, -1, 1}, {most, most, -most}, {most, -most, most, 1},
		slices.Repeat([]int{most}, impl.MaxSignal), append(slices.Repeat([]int{most, -most}, impl.MaxSignal/2-1), most, 1),
	} {
		ramp, ok := impl.Ramp(list)
		noSignal(t, "Ramp beyond", ramp, ok)
	}
	for _, list := range [][]int{
		{1, 1 - most, 2}, {-1, most}, {1, -most}, {most, -1}, {-most, 1}, {most, -most}, {-most, most}, {0, most, -1, 0}, {0, -most, 1},
		append(make([]int, impl.MaxSignal-2), most, -1), append(make([]int, impl.MaxSignal-2), -most, 1),
	} {
		steps, ok := impl.Steps(list)
		noSignal(t, "Steps beyond", steps, ok)
	}
	for _, list := range noSignals() {
		ramp, ok := impl.Ramp(list)
		noSignal(t, "Ramp of no signal", ramp, ok)
		steps, ok := impl.Steps(list)
		noSignal(t, "Steps of no signal", steps, ok)
	}
}

// Where a sum or a difference is no sample nothing is told, else each undoes the other.
func rampUndone(t *testing.T, list []int) {
	t.Helper()
	sums := []int{}
	for i := range list {
		sums = append(sums, sumOfInts(list[:i+1]))
	}
	ramp, ok := impl.Ramp(list)
	if !impl.SignalOk(sums) {
		noSignal(t, "Ramp", ramp, ok)
		return
	}
	holdSignal(t, "Ramp", ramp, ok, sums)
	back, ok := impl.Steps(ramp)
	holdSignal(t, "Steps of Ramp", back, ok, list)
}

func stepsUndone(t *testing.T, list []int) {
	t.Helper()
	differences := slices.Clone(list)
	for i := len(list) - 1; i > 0; i-- {
		differences[i] -= list[i-1]
	}
	steps, ok := impl.Steps(list)
	if !impl.SignalOk(differences) {
		noSignal(t, "Steps", steps, ok)
		return
	}
	holdSignal(t, "Steps", steps, ok, differences)
	back, ok := impl.Ramp(steps)
	holdSignal(t, "Ramp of Steps", back, ok, list)
}

func TestFixedRampsAndStepsUndoneByEachOther(t *testing.T) {
	g := formSource(522)
	for _, count := range []int{0, 1, 2, 3, 4, 10, 100, impl.MaxSignal - 1, impl.MaxSignal} {
		for _, most := range []int{1, 1000, impl.MaxSample / impl.MaxSignal, impl.MaxSample / 10, impl.MaxSample / 2, impl.MaxSample} {
			for range 8 {
				list := g.signal(most, count)
				rampUndone(t, list)
				stepsUndone(t, list)
			}
		}
	}
}

// newMemory writes over an answer, and asks whether the argument or another answer has felt it.
func newMemory(t *testing.T, what string, list []int, call func(list []int) ([]int, bool)) {
	t.Helper()
	untouchedInts(t, what, list, func(piece []int) {
		first, ok := call(piece)
		if !ok {
			t.Fatalf("%s of %v is refused", what, list)
		}
		want := slices.Clone(first)
		full := first[:cap(first)]
		for i := range full {
			full[i] = -9
		}
		again, ok := call(piece)
		holdSignal(t, what+", again,", again, ok, want)
	})
}

func TestFixedAnswersAreNewMemory(t *testing.T) {
	for _, list := range [][]int{{}, {3}, {0, 0}, {1, 2, 3}, {4, -4, 8, -8}, {1000, 1, -5, 7, 9, 11, 13, 15}} {
		newMemory(t, "Ramp", list, impl.Ramp)
		newMemory(t, "Steps", list, impl.Steps)
		for _, by := range []int{1, 2, 20} {
			newMemory(t, "ShapeNoise", list, func(list []int) ([]int, bool) { return impl.ShapeNoise(list, by) })
		}
		untouchedInts(t, "SignalOk", list, func(piece []int) {
			if !impl.SignalOk(piece) {
				t.Errorf("%v is no signal", list)
			}
		})
		for _, each := range []bool{false, true} {
			untouchedInts(t, "DotFix", list, func(a []int) {
				untouchedInts(t, "DotFix", list, func(b []int) {
					holdBig(t, "DotFix", impl.DotFix(a, b, 3, 12, impl.CutNear, each), dotBig(list, list, 3, 12, impl.CutNear, each), list)
				})
			})
		}
	}
}

// What is refused is not written into either, nor handed out.
func TestFixedRefusedArgumentsStay(t *testing.T) {
	for _, list := range noSignals() {
		untouchedInts(t, "what is refused", list, func(piece []int) {
			impl.SignalOk(piece)
			impl.DotFix(piece, piece, 0, 8, impl.CutDown, true)
			for _, got := range [][]int{listOf(impl.Ramp(piece)), listOf(impl.Steps(piece)), listOf(impl.ShapeNoise(piece, 3))} {
				full := got[:cap(got)]
				for i := range full {
					full[i] = -9
				}
			}
		})
	}
}

func listOf(list []int, _ bool) []int { return list }
