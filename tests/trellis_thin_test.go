package tests

import (
	"math"
	"slices"
	"testing"

	"loop.example/g00043/impl"
)

func TestTrellisThinByHand(t *testing.T) {
	for _, c := range []struct{ list, keep, want, back []int }{
		{[]int{1, 2, 3, 4, 5}, []int{1, 0, 1}, []int{1, 3, 4}, []int{1, 0, 3, 4, 0}},
		{[]int{1, 2, 3}, []int{1}, []int{1, 2, 3}, []int{1, 2, 3}},
		{[]int{1, 2, 3}, []int{0, 1}, []int{2}, []int{0, 2, 0}},
		{[]int{1, 2, 3}, []int{1, 0}, []int{1, 3}, []int{1, 0, 3}},
		{[]int{7}, []int{0, 0, 1}, nil, []int{0}},
		{[]int{7, 8, 9}, []int{0, 0, 1}, []int{9}, []int{0, 0, 9}},
		{nil, []int{1}, nil, nil}, {nil, []int{0, 1}, nil, nil},
		{[]int{math.MinInt, math.MaxInt, -1, 0}, []int{1, 1, 0}, []int{math.MinInt, math.MaxInt, 0}, []int{math.MinInt, math.MaxInt, 0, 0}},
		{[]int{6, 5, 4, 3, 2, 1}, []int{1, 1, 0, 0}, []int{6, 5, 2, 1}, []int{6, 5, 0, 0, 2, 1}},
	} {
		holdSignal(t, "the oracle by hand", thinSlow(c.list, c.keep), true, c.want)
		holdSignal(t, "the oracle back by hand", thickenSlow(c.want, c.keep, len(c.list)), true, c.back)
		got, ok := impl.Thin(c.list, c.keep)
		holdSignal(t, "Thin by hand", got, ok, c.want)
		got, ok = impl.Thicken(c.want, c.keep, len(c.list))
		holdSignal(t, "Thicken by hand", got, ok, c.back)
	}
}

// thinHolds goes there and back: what was kept stands where it stood, and thinned once more it is what it was.
func thinHolds(t *testing.T, list, keep []int) {
	t.Helper()
	thin, ok := impl.Thin(list, keep)
	holdSignal(t, "Thin", thin, ok, thinSlow(list, keep))
	thick, ok := impl.Thicken(thin, keep, len(list))
	if !ok || len(thick) != len(list) {
		t.Fatalf("Thicken of %v by %v to %d is %v %v", thin, keep, len(list), thick, ok)
	}
	for place, x := range thick {
		if kept := keep[place%len(keep)] == 1; kept && x != list[place] || !kept && x != 0 {
			t.Errorf("Thicken of %v by %v has %d at %d", thin, keep, x, place)
		}
	}
	again, ok := impl.Thin(thick, keep)
	holdSignal(t, "Thin of Thicken", again, ok, thin)
}

func TestTrellisThinThereAndBack(t *testing.T) {
	g := formSource(1531)
	for _, keep := range g.keeps() {
		for _, n := range bitLengths {
			thinHolds(t, g.atEnds(maxSample, n), keep)
		}
		thinHolds(t, counted(len(keep)), keep)
		thinHolds(t, counted(len(keep)+1), keep)
		thinHolds(t, counted(2*len(keep)-1), keep)
		thinHolds(t, nil, keep)
	}
}

// Any numbers are kept, the greatest and the least too.
func TestTrellisThinOfAnyNumbers(t *testing.T) {
	g := formSource(1532)
	some := []int{math.MinInt, math.MaxInt, math.MinInt + 1, 1 << 32, -1 << 32, 0, 1, -1, 2, maxBig}
	for _, keep := range g.keeps() {
		for _, n := range []int{1, 5, 33, 200, maxBits} {
			thinHolds(t, g.of(some, n), keep)
		}
	}
}

// What is kept of all patterns of up to six numbers.
func TestTrellisThinByAllShortPatterns(t *testing.T) {
	g := formSource(1533)
	shortBits(6, func(keep []int) {
		if !slices.Contains(keep, 1) {
			return
		}
		for n := range 14 {
			list := g.signal(maxSample, n)
			thinHolds(t, list, keep)
			thin := thinSlow(list, keep)
			got, ok := impl.Thicken(thin, keep, n)
			holdSignal(t, "Thicken", got, ok, thickenSlow(thin, keep, n))
		}
	})
}

// A pattern written twice keeps what it keeps written once.
func TestTrellisThinByPatternsTwice(t *testing.T) {
	g := formSource(1534)
	for _, keep := range g.keeps() {
		if len(keep) > maxKeep/2 {
			continue
		}
		list := g.signal(maxSample, 200)
		once, _ := impl.Thin(list, keep)
		twice, ok := impl.Thin(list, slices.Concat(keep, keep))
		holdSignal(t, "Thin by a pattern twice", twice, ok, once)
	}
}

func TestTrellisThinThatIsRefused(t *testing.T) {
	for _, keep := range noKeeps {
		for _, n := range []int{0, 1, 5, maxBits, maxBits + 1} {
			got, ok := impl.Thin(make([]int, n), keep)
			noSignal(t, "Thin by a wrong pattern", got, ok)
		}
	}
	g := formSource(1535)
	for _, keep := range g.keeps() {
		for _, n := range []int{maxBits + 1, maxBits + 2, 5000} {
			got, ok := impl.Thin(make([]int, n), keep)
			noSignal(t, "Thin of too many", got, ok)
		}
	}
}

func TestTrellisThickenThatIsRefused(t *testing.T) {
	for _, keep := range noKeeps {
		for _, n := range []int{0, 1, 5, maxBits, maxBits + 1, -1} {
			for _, list := range [][]int{nil, {1}, {1, 2, 3, 4, 5}, make([]int, maxBits)} {
				got, ok := impl.Thicken(list, keep, n)
				noSignal(t, "Thicken by a wrong pattern", got, ok)
			}
		}
	}
	g := formSource(1536)
	for _, keep := range g.keeps() {
		for _, n := range []int{-1, maxBits + 1, -2, maxBits + 2, -maxBits, 1 << 20, 1 << 32, 1<<32 + 1, math.MaxInt, math.MinInt} {
			for _, list := range [][]int{nil, {1}, thinSlow(make([]int, maxBits), keep), thinSlow(make([]int, maxBits+1), keep)} {
				got, ok := impl.Thicken(list, keep, n)
				noSignal(t, "Thicken to a wrong length", got, ok)
			}
		}
	}
}

// A list that is one too short, or one too long.
func TestTrellisThickenOfWrongLists(t *testing.T) {
	g := formSource(1537)
	for _, keep := range g.keeps() {
		for _, n := range []int{0, 1, 2, 7, 32, 33, 100, maxBits - 1, maxBits} {
			list := thinSlow(counted(n), keep)
			got, ok := impl.Thicken(list, keep, n)
			holdSignal(t, "Thicken", got, ok, thickenSlow(list, keep, n))
			got, ok = impl.Thicken(append(slices.Clone(list), 0), keep, n)
			noSignal(t, "Thicken of one too many", got, ok)
			if len(list) > 0 {
				got, ok = impl.Thicken(list[1:], keep, n)
				noSignal(t, "Thicken of one too few", got, ok)
			}
		}
		got, ok := impl.Thicken(make([]int, 5000), keep, maxBits)
		noSignal(t, "Thicken of far too many", got, ok)
	}
}
