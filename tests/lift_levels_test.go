package tests

import (
	"math"
	"slices"
	"testing"

	"loop.example/g00043/impl"
)

func TestLiftByHand(t *testing.T) {
	for _, c := range []struct {
		kind       int
		levels     int
		list, want []int
	}{
		{impl.LiftMean, 0, []int{4, 6, 8, 2}, []int{4, 6, 8, 2}}, {impl.LiftMean, 1, []int{4, 6, 8, 2}, []int{5, 5, 2, -6}}, {impl.LiftMean, 2, []int{4, 6, 8, 2}, []int{5, 0, 2, -6}}, {impl.LiftMean, 3, []int{4, 6, 8, 2}, []int{5, 0, 2, -6}},
		{impl.LiftMean, 1, []int{1, 2, 4, 8, 16}, []int{1, 6, 16, 1, 4}}, {impl.LiftMean, 2, []int{1, 2, 4, 8, 16}, []int{3, 16, 5, 1, 4}}, {impl.LiftMean, 3, []int{1, 2, 4, 8, 16}, []int{9, 13, 5, 1, 4}}, {impl.LiftMean, 8, []int{1, 2, 4, 8, 16}, []int{9, 13, 5, 1, 4}},
		{impl.LiftFive, 1, []int{0, 0, 8, 0}, []int{-2, 5, -4, -8}}, {impl.LiftFive, 2, []int{0, 0, 8, 0}, []int{2, 7, -4, -8}},
		{impl.LiftNine, 1, []int{0, 0, 16, 0, 0, 0}, []int{-4, 12, -2, -9, -9, 1}}, {impl.LiftNine, 2, []int{0, 0, 16, 0, 0, 0}, []int{4, 6, 15, -9, -9, 1}}, {impl.LiftNine, 3, []int{0, 0, 16, 0, 0, 0}, []int{5, 2, 15, -9, -9, 1}},
	} {
		list, ok := impl.Lift(c.kind, c.list, c.levels)
		holdSignal(t, "Lift by hand", list, ok, c.want)
		holdSignal(t, "the oracle by hand", liftSlow(c.kind, c.list, c.levels), true, c.want)
		back, ok := impl.Unlift(c.kind, c.want, c.levels)
		holdSignal(t, "Unlift by hand", back, ok, c.list)
	}
}

func liftHolds(t *testing.T, kind int, list []int, levels int) {
	t.Helper()
	got, ok := impl.Lift(kind, list, levels)
	holdSignal(t, "Lift", got, ok, liftSlow(kind, list, levels))
	back, ok := impl.Unlift(kind, got, levels)
	holdSignal(t, "Unlift of Lift", back, ok, list)
}

func TestLiftThereAndBack(t *testing.T) {
	for _, kind := range liftings {
		for levels := range maxLevels + 1 {
			manySignals(921, maxSample, func(list []int) { liftHolds(t, kind, list, levels) })
		}
		shortSignals(2, 4, func(list []int) { liftHolds(t, kind, list, 2) })
		shortSignals(1, 5, func(list []int) { liftHolds(t, kind, list, maxLevels) })
	}
}

// Lift of one level has the numbers of LiftOnce, and of one more those of Lift again, as long as there is more than one.
func TestLiftIsOnceAndOnceAgain(t *testing.T) {
	g := formSource(922)
	for _, kind := range liftings {
		for _, n := range liftLengths {
			list := g.signal(maxSample/4, n)
			low, high, ok := impl.LiftOnce(kind, list)
			one, okOne := impl.Lift(kind, list, 1)
			holdSignal(t, "Lift of one level", one, ok && okOne, slices.Concat(low, high))
			for levels := 1; levels <= maxLevels; levels++ {
				rest, ok := impl.Lift(kind, low, levels-1)
				more, okMore := impl.Lift(kind, list, levels)
				holdSignal(t, "Lift of more levels", more, ok && okMore, slices.Concat(rest, high))
			}
		}
	}
}

func TestLiftOfOneNumberOrNone(t *testing.T) {
	for _, kind := range liftings {
		for levels := range maxLevels + 1 {
			for _, list := range [][]int{nil, {}, {0}, {1}, {-1}, {maxSample}, {-maxSample}} {
				got, ok := impl.Lift(kind, list, levels)
				holdSignal(t, "Lift of one number or none", got, ok, list)
				back, ok := impl.Unlift(kind, list, levels)
				holdSignal(t, "Unlift of one number or none", back, ok, list)
			}
			for _, list := range [][]int{{maxLifted}, {-maxLifted}} {
				back, ok := impl.Unlift(kind, list, levels)
				holdSignal(t, "Unlift of one number", back, ok, list)
			}
		}
	}
}

// A list of so few numbers is down to one ahead of the last level: what is asked for beyond changes nothing.
func TestLiftThatIsDoneAhead(t *testing.T) {
	g := formSource(923)
	for _, kind := range liftings {
		done := 0
		for n := 1; n <= 256; n++ {
			if n > 1<<done {
				done++
			}
			list := g.signal(1000, n)
			want, ok := impl.Lift(kind, list, done)
			for levels := done; levels <= maxLevels; levels++ {
				got, okGot := impl.Lift(kind, list, levels)
				holdSignal(t, "Lift that is done", got, ok && okGot, want)
				back, okBack := impl.Unlift(kind, want, levels)
				holdSignal(t, "Unlift that is done", back, okBack, list)
			}
			if done == 0 {
				continue
			}
			if ahead, _ := impl.Lift(kind, list, done-1); slices.Equal(ahead, want) && n > 8 {
				t.Errorf("Lift of %d numbers by %d is done behind %d levels", n, kind, done-1)
			}
		}
	}
}

// Low numbers may be beyond a sample, and are lifted again for all that.
func TestLiftOfLowNumbersBeyondASample(t *testing.T) {
	const most = maxSample
	for _, kind := range []int{impl.LiftFive, impl.LiftNine} {
		for _, x := range []int{most, -most} {
			list := slices.Repeat([]int{-x, x, x, x}, 8)
			low, high, ok := impl.LiftOnce(kind, list)
			if !ok || impl.SignalOk(low) {
				t.Fatalf("the low numbers by %d are all samples: %v", kind, low)
			}
			for levels := 2; levels <= maxLevels; levels++ {
				liftHolds(t, kind, list, levels)
			}
			got, ok := impl.Lift(kind, list, 1)
			holdSignal(t, "Lift", got, ok, slices.Concat(low, high))
		}
	}
}

// The loudest signal for a place has all samples at the ends, each of the sign with which it counts there.
func TestLiftOfTheLoudest(t *testing.T) {
	for _, kind := range liftings {
		for _, n := range []int{3, 27, 64, 109} {
			shares := [][]int{}
			for at := range n {
				list := make([]int, n)
				list[at] = maxSample
				share, ok := impl.Lift(kind, list, maxLevels)
				if !ok {
					t.Fatalf("Lift of one sample among %d noughts is refused", n)
				}
				shares = append(shares, share)
			}
			for place := range n {
				list := slices.Repeat([]int{maxSample}, n)
				for at := range n {
					if shares[at][place] < 0 {
						list[at] = -maxSample
					}
				}
				liftHolds(t, kind, list, maxLevels)
			}
		}
	}
}

// unliftHolds asks the oracle to lift what has come back.
func unliftHolds(t *testing.T, kind int, list []int, levels int) {
	t.Helper()
	back, ok := impl.Unlift(kind, list, levels)
	if !ok || len(back) != len(list) {
		t.Fatalf("Unlift by %d of %v, %d levels, is %v %v", kind, list, levels, back, ok)
	}
	holdSignal(t, "what Unlift tells, lifted,", liftSlow(kind, back, levels), ok, list)
}

func TestUnliftOfAnyNumbers(t *testing.T) {
	for _, kind := range liftings {
		for levels := range maxLevels + 1 {
			manySignals(924, maxLifted, func(list []int) { unliftHolds(t, kind, list, levels) })
		}
		for _, x := range []int{maxLifted, -maxLifted} {
			unliftHolds(t, kind, slices.Repeat([]int{x}, maxSignal), maxLevels)
			unliftHolds(t, kind, slices.Repeat([]int{x, -x}, maxSignal/2), maxLevels)
		}
	}
}

func TestLiftThatIsRefused(t *testing.T) {
	for _, kind := range liftings {
		for _, list := range noSignals() {
			for _, levels := range []int{0, 1, 2, maxLevels, -1} {
				got, ok := impl.Lift(kind, list, levels)
				noSignal(t, "Lift of no signal", got, ok)
			}
		}
		for _, levels := range noLevels {
			for _, list := range [][]int{nil, {}, {5}, {5, 6}, {1, 2, 3, 4, 5}, make([]int, maxSignal)} {
				got, ok := impl.Lift(kind, list, levels)
				noSignal(t, "Lift of no levels", got, ok)
				back, ok := impl.Unlift(kind, list, levels)
				noSignal(t, "Unlift of no levels", back, ok)
			}
		}
	}
	for _, kind := range noLiftings {
		for _, list := range [][]int{nil, {}, {5}, {5, 6}, {1, 2, 3, 4, 5}} {
			for _, levels := range []int{0, 1, maxLevels, -1} {
				got, ok := impl.Lift(kind, list, levels)
				noSignal(t, "Lift of no kind", got, ok)
				back, ok := impl.Unlift(kind, list, levels)
				noSignal(t, "Unlift of no kind", back, ok)
			}
		}
	}
}

func TestUnliftThatIsRefused(t *testing.T) {
	for _, kind := range liftings {
		for _, levels := range []int{0, 1, 2, maxLevels} {
			for _, n := range []int{maxSignal + 1, maxSignal + 2, 5000} {
				back, ok := impl.Unlift(kind, make([]int, n), levels)
				noSignal(t, "Unlift of too many", back, ok)
			}
			for _, x := range []int{maxLifted + 1, -maxLifted - 1, 1 << 40, math.MaxInt, math.MinInt, math.MinInt + 1} {
				for _, list := range [][]int{{x}, {x, 0, 0}, {0, x, 0}, {0, 0, x}, append(make([]int, maxSignal-1), x)} {
					back, ok := impl.Unlift(kind, list, levels)
					noSignal(t, "Unlift of a number beyond", back, ok)
				}
			}
			for _, x := range []int{maxLifted, -maxLifted, maxSample + 1, -maxSample - 1} {
				for _, list := range [][]int{{x}, {x, 0, 0}, {0, x, 0}, {0, 0, x}, append(make([]int, maxSignal-1), x)} {
					unliftHolds(t, kind, list, levels)
				}
			}
		}
	}
}

func TestLiftOfOneAndTheSame(t *testing.T) {
	for _, kind := range liftings {
		for _, x := range []int{0, 1, -1, 2, -3, 1001, -1001, maxSample, -maxSample} {
			for _, n := range liftLengths {
				list := slices.Repeat([]int{x}, n)
				for levels := range maxLevels + 1 {
					low := n
					for range levels {
						low = (low + 1) / 2
					}
					got, ok := impl.Lift(kind, list, levels)
					holdSignal(t, "Lift of a still signal", got, ok, slices.Concat(list[:low], make([]int, n-low)))
				}
			}
		}
	}
}
