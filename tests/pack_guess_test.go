package tests

import (
	"slices"
	"testing"

	"loop.example/g00043/impl"
)

var (
	orders   = []int{0, 1, 2, 3}
	noOrders = append(beyond(3), -1, 4, 5, 7, 8, 256, 259, 1<<32+3)
)

func guessHolds(t *testing.T, order int, list []int) {
	t.Helper()
	left, ok := impl.Guess(order, list)
	holdSignal(t, "Guess", left, ok, guessSlow(order, list))
}

func unGuessHolds(t *testing.T, order int, left []int) {
	t.Helper()
	got, ok := impl.UnGuess(order, left)
	if want, wantOk := unGuessSlow(order, left); ok != wantOk || !slices.Equal(got, want) {
		t.Errorf("UnGuess of %d and %v is %v %v, not %v %v", order, left, got, ok, want, wantOk)
	}
}

func noUnGuess(t *testing.T, what string, order int, left []int) {
	t.Helper()
	got, ok := impl.UnGuess(order, left)
	noSignal(t, what, got, ok)
}

func TestPackGuessByHand(t *testing.T) {
	list := []int{1, 4, 9, 16, 26}
	for order, want := range [][]int{{1, 4, 9, 16, 26}, {1, 3, 5, 7, 10}, {1, 3, 2, 2, 3}, {1, 3, 2, 0, 1}} {
		left, ok := impl.Guess(order, list)
		holdSignal(t, "Guess", left, ok, want)
		back, ok := impl.UnGuess(order, want)
		holdSignal(t, "UnGuess", back, ok, list)
		holdSignal(t, "the oracle", guessSlow(order, list), true, want)
	}
}

func TestPackGuessAgainstTheRule(t *testing.T) {
	for _, order := range orders {
		shortSignals(2, 5, func(list []int) { guessHolds(t, order, list) })
		manySignals(1701, maxSample, func(list []int) { guessHolds(t, order, list) })
		manyBlocks(1702, func(list []int) { guessHolds(t, order, list) })
	}
}

// At the ends what is left is as great as it can be: twice, four and eight times a sample.
func TestPackGuessAtTheEnds(t *testing.T) {
	for _, n := range []int{0, 1, 2, 3, 4, 5, maxSignal - 1, maxSignal} {
		for _, x := range []int{maxSample, -maxSample} {
			list := []int{}
			for range n {
				list = append(list, x)
				x = -x
			}
			for _, order := range orders {
				guessHolds(t, order, list)
				left, _ := impl.Guess(order, list)
				back, ok := impl.UnGuess(order, left)
				holdSignal(t, "UnGuess", back, ok, list)
				if at := n - 1; n > 3 && max(left[at], -left[at]) != maxSample<<order {
					t.Errorf("order %d leaves %d", order, left[at])
				}
			}
		}
	}
}

func TestPackGuessWrong(t *testing.T) {
	for _, order := range noOrders {
		for _, list := range [][]int{{}, {1}, {1, 2, 3, 4, 5}} {
			left, ok := impl.Guess(order, list)
			noSignal(t, "Guess of such an order", left, ok)
			noUnGuess(t, "UnGuess of such an order", order, list)
		}
	}
	for _, order := range orders {
		for _, list := range noSignals() {
			left, ok := impl.Guess(order, list)
			noSignal(t, "Guess of no signal", left, ok)
		}
	}
}

func TestPackUnGuessAgainstTheRule(t *testing.T) {
	for _, order := range orders {
		shortSignals(2, 5, func(left []int) { unGuessHolds(t, order, left) })
		for _, most := range []int{maxSample, 2 * maxSample, 3 * maxSample, 8 * maxSample, 10 * maxSample} {
			g := formSource(1703)
			for range 2000 {
				unGuessHolds(t, order, g.atEnds(most, int(g.next()%7)))
				unGuessHolds(t, order, g.signal(most, int(g.next()%4)))
			}
		}
		manySignals(1704, 3, func(left []int) { unGuessHolds(t, order, left) })
		manySignals(1705, maxSample, func(left []int) { unGuessHolds(t, order, left) })
	}
}

// A number of 10 MaxSample is more than any signal leaves, so that one and those beyond are refused alike; 8 MaxSample is not.
func TestPackUnGuessAtItsLimits(t *testing.T) {
	for _, order := range orders {
		for _, sign := range []int{1, -1} {
			for _, x := range append(beyond(10*maxSample), 10*maxSample, 10*maxSample-1, 8*maxSample+1) {
				for _, ahead := range [][]int{{}, {0}, {-sign * maxSample}, {-sign * maxSample, 2 * sign * maxSample}, {0, 0, 0, 0}} {
					noUnGuess(t, "a number too great", order, append(slices.Clone(ahead), sign*x))
					noUnGuess(t, "a number too great", order, append(append(slices.Clone(ahead), sign*x), -sign*x, 0))
				}
			}
		}
		all := make([]int, maxSignal)
		unGuessHolds(t, order, all)
		noUnGuess(t, "too many numbers", order, append(all, 0))
		noUnGuess(t, "too many numbers", order, make([]int, 5000))
	}
	back, ok := impl.UnGuess(3, []int{-maxSample, 2 * maxSample, -4 * maxSample, 8 * maxSample})
	holdSignal(t, "UnGuess", back, ok, []int{-maxSample, maxSample, -maxSample, maxSample})
	noUnGuess(t, "one more", 3, []int{-maxSample, 2 * maxSample, -4 * maxSample, 8*maxSample + 1})
}

// One sample beyond its bounds is enough, though those behind it come back.
func TestPackUnGuessLeavesItsBounds(t *testing.T) {
	for _, sign := range []int{1, -1} {
		end := sign * maxSample
		for order, lists := range map[int][][]int{
			0: {{end + sign}, {end + sign, 0}, {0, 0, end + sign, 0, 0}},
			1: {{end, sign}, {end, sign, -sign}, {end, sign, -sign, 0, -end}, {0, end, sign, -end}},
			2: {{end, sign}, {end, sign, -2 * sign}, {end, 0, sign, -2 * sign}, {0, end, -end, sign, -2 * sign}},
			3: {{end, sign}, {end, 0, sign}, {end, 0, 0, sign}, {end, 0, 0, sign, -3 * sign}, {end, 0, 0, 0, 0, sign, -3 * sign, 3 * sign}},
		} {
			for _, left := range lists {
				unGuessHolds(t, order, left)
				noUnGuess(t, "a sample beyond its bounds", order, left)
			}
		}
	}
	// Left to go on for long, these would pass the end of an int.
	for _, order := range []int{2, 3} {
		noUnGuess(t, "a steep way out", order, slices.Repeat([]int{maxSample}, maxSignal))
		noUnGuess(t, "a steep way out", order, slices.Repeat([]int{10 * maxSample}, maxSignal))
	}
}

// Signals come back from what is left of them.
func TestPackSignalsComeBackFromWhatIsLeft(t *testing.T) {
	for _, order := range orders {
		for seed := range uint64(5) {
			manySignals(1706+seed, maxSample, func(list []int) {
				left, ok := impl.Guess(order, list)
				if !ok || len(left) != len(list) {
					t.Fatalf("Guess of %d and %v is %v %v", order, list, left, ok)
				}
				back, ok := impl.UnGuess(order, left)
				holdSignal(t, "UnGuess of Guess", back, ok, list)
			})
		}
		g := formSource(1720)
		for _, n := range []int{0, 1, 2, 3, 4, maxSignal} {
			for range 50 {
				left := g.signal(2, n)
				if list, ok := impl.UnGuess(order, left); ok {
					again, ok := impl.Guess(order, list)
					holdSignal(t, "Guess of UnGuess", again, ok, left)
				}
			}
		}
	}
}

// What an order foretells leaves nothing behind its first samples.
func TestPackGuessOfWhatIsForetold(t *testing.T) {
	g := formSource(1721)
	for range 50 {
		a, b, c := g.within(1000), g.within(1000), g.within(1000)
		still, line, arc := []int{}, []int{}, []int{}
		for at := range maxSignal {
			still, line, arc = append(still, a), append(line, a+b*at), append(arc, a+b*at+c*at*(at-1)/2)
		}
		for order, list := range map[int][]int{1: still, 2: line, 3: arc} {
			left, ok := impl.Guess(order, list)
			holdSignal(t, "what is left behind the first", left[order:], ok, make([]int, maxSignal-order))
		}
	}
}
