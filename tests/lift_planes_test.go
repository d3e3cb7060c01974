package tests

import (
	"math"
	"slices"
	"testing"

	"loop.example/g00043/impl"
)

const maxRows = 64

var planes = [][2]int{{1, 1}, {1, 2}, {2, 1}, {1, 5}, {5, 1}, {2, 2}, {3, 3}, {2, 7}, {7, 2}, {5, 8}, {16, 9}, {1, 64}, {64, 1}, {63, 64}, {64, 63}, {64, 64}}

// plane has rows that draw makes, one by one.
func plane(count int, length int, draw func(length int) []int) [][]int {
	rows := [][]int{}
	for range count {
		rows = append(rows, draw(length))
	}
	return rows
}

// manyPlanes gives rows of each shape, with numbers up to most in size.
func manyPlanes(seed uint64, most int, call func(rows [][]int)) {
	g := formSource(seed)
	for _, shape := range planes {
		for _, least := range []int{1, 40, most} {
			call(plane(shape[0], shape[1], func(n int) []int { return g.signal(least, n) }))
		}
		call(plane(shape[0], shape[1], func(n int) []int { return g.loud(most, n) }))
		call(plane(shape[0], shape[1], func(n int) []int { return g.atEnds(most, n) }))
	}
}

func TestLift2ByHand(t *testing.T) {
	for _, c := range []struct {
		kind       int
		rows, want [][]int
	}{
		{impl.LiftMean, [][]int{{1, 3}, {5, 9}}, [][]int{{4, 3}, {5, 2}}}, {impl.LiftMean, [][]int{{-7}}, [][]int{{-7}}}, {impl.LiftMean, [][]int{{0, -1}, {0, 0}}, [][]int{{-1, -1}, {1, 1}}}, {impl.LiftMean, [][]int{{0, 0}, {-1, 0}}, [][]int{{-1, 0}, {-1, 1}}},
		{impl.LiftMean, [][]int{{5, 8, 1, 0, 7}}, [][]int{{6, 0, 7, 3, -1}}}, {impl.LiftMean, [][]int{{5}, {8}, {1}, {0}, {7}}, [][]int{{6}, {0}, {7}, {3}, {-1}}},
		{impl.LiftFive, [][]int{{1, 2, 3, 10, 5}}, [][]int{{1, 5, 8, 0, 6}}}, {impl.LiftFive, [][]int{{1}, {2}, {3}, {10}, {5}}, [][]int{{1}, {5}, {8}, {0}, {6}}}, {impl.LiftFive, [][]int{{0, 1, 0}, {0, 0, 0}, {0, 0, 0}}, [][]int{{1, 1, 1}, {0, 0, 0}, {0, 0, 0}}},
		{impl.LiftNine, [][]int{{16, 0}, {0, 0}}, [][]int{{4, -8}, {-8, 16}}},
	} {
		got, ok := impl.Lift2(c.kind, c.rows)
		holdRows(t, "Lift2 by hand", got, ok, c.want)
		holdRows(t, "the oracle by hand", lift2Slow(c.kind, c.rows), true, c.want)
		back, ok := impl.Unlift2(c.kind, c.want)
		holdRows(t, "Unlift2 by hand", back, ok, c.rows)
	}
}

func TestLift2ThereAndBack(t *testing.T) {
	for _, kind := range liftings {
		manyPlanes(931, maxSample, func(rows [][]int) {
			got, ok := impl.Lift2(kind, rows)
			holdRows(t, "Lift2", got, ok, lift2Slow(kind, rows))
			back, ok := impl.Unlift2(kind, got)
			holdRows(t, "Unlift2 of Lift2", back, ok, rows)
		})
	}
}

// One row is lifted as LiftOnce has it, and one column too.
func TestLift2OfOneRowOrColumn(t *testing.T) {
	g := formSource(932)
	for _, kind := range liftings {
		for n := 1; n <= maxRows; n++ {
			list := g.signal(maxSample, n)
			low, high, ok := impl.LiftOnce(kind, list)
			row, okRow := impl.Lift2(kind, [][]int{list})
			holdRows(t, "Lift2 of one row", row, ok && okRow, [][]int{slices.Concat(low, high)})
			column, okColumn := impl.Lift2(kind, turnedAround([][]int{list}))
			holdRows(t, "Lift2 of one column", column, ok && okColumn, turnedAround(row))
		}
	}
}

func TestLift2OfNoNumber(t *testing.T) {
	for _, kind := range liftings {
		for _, rows := range [][][]int{nil, {}, {{}}, {nil}, {{}, nil}, {nil, {}, {}}, make([][]int, maxRows)} {
			got, ok := impl.Lift2(kind, rows)
			holdRows(t, "Lift2 of no number", got, ok, rows)
			back, ok := impl.Unlift2(kind, rows)
			holdRows(t, "Unlift2 of no number", back, ok, rows)
		}
	}
}

// unlift2Holds asks the oracle to lift what has come back.
func unlift2Holds(t *testing.T, kind int, rows [][]int) {
	t.Helper()
	back, ok := impl.Unlift2(kind, rows)
	if !ok || len(back) != len(rows) || len(back[0]) != len(rows[0]) {
		t.Fatalf("Unlift2 by %d of %v is %v %v", kind, rows, back, ok)
	}
	holdRows(t, "what Unlift2 tells, lifted,", lift2Slow(kind, back), ok, rows)
}

func TestUnlift2OfAnyNumbers(t *testing.T) {
	for _, kind := range liftings {
		manyPlanes(933, maxLifted, func(rows [][]int) { unlift2Holds(t, kind, rows) })
	}
}

// Rows first, then columns: the roundings tell the order.
func TestLift2OrderIsSeen(t *testing.T) {
	for _, kind := range liftings {
		seen := 0
		manyPlanes(934, 1000, func(rows [][]int) {
			other := turnedAround(lift2Slow(kind, turnedAround(rows)))
			if !slices.EqualFunc(lift2Slow(kind, rows), other, slices.Equal[[]int]) {
				seen++
			}
		})
		if seen == 0 {
			t.Errorf("by %d no plane tells rows and columns apart", kind)
		}
	}
}

func noPlanes(most int) [][][]int {
	list := [][][]int{
		make([][]int, maxRows+1), plane(maxRows+1, 1, func(n int) []int { return make([]int, n) }), plane(maxRows+1, maxRows, func(n int) []int { return make([]int, n) }), make([][]int, 500),
		plane(1, maxRows+1, func(n int) []int { return make([]int, n) }), plane(maxRows, maxRows+1, func(n int) []int { return make([]int, n) }), plane(2, 500, func(n int) []int { return make([]int, n) }),
		{{1, 2}, {3}}, {{1}, {2, 3}}, {{}, {1}}, {{1}, {}}, {{1}, nil}, {nil, {1}}, {{1, 2}, {3, 4}, {5}}, {{1, 2}, {3, 4}, {5, 6, 7}}, {{1, 2}, {}, {3, 4}}, {{1, 2, 3}, {1}, {1, 2}},
	}
	for _, x := range []int{most + 1, -most - 1, 1 << 40, math.MaxInt, math.MinInt, math.MinInt + 1} {
		list = append(list, [][]int{{x}}, [][]int{{x, 0}, {0, 0}}, [][]int{{0, x}, {0, 0}}, [][]int{{0, 0}, {x, 0}}, [][]int{{0, 0}, {0, x}}, [][]int{{0, 0, 0}, {0, x, 0}, {0, 0, 0}})
	}
	return list
}

func TestLift2ThatIsRefused(t *testing.T) {
	for _, kind := range liftings {
		for _, rows := range noPlanes(maxSample) {
			got, ok := impl.Lift2(kind, rows)
			noRows(t, "Lift2 of no such rows", got, ok)
		}
		for _, rows := range noPlanes(maxLifted) {
			back, ok := impl.Unlift2(kind, rows)
			noRows(t, "Unlift2 of no such rows", back, ok)
		}
	}
	for _, kind := range noLiftings {
		for _, rows := range [][][]int{nil, {}, {{}}, {{1}}, {{1, 2}, {3, 4}}} {
			got, ok := impl.Lift2(kind, rows)
			noRows(t, "Lift2 of no kind", got, ok)
			back, ok := impl.Unlift2(kind, rows)
			noRows(t, "Unlift2 of no kind", back, ok)
		}
	}
}

func TestLift2AtTheLimits(t *testing.T) {
	for _, kind := range liftings {
		for place := range 9 {
			for _, sign := range []int{1, -1} {
				rows := plane(3, 3, func(n int) []int { return make([]int, n) })
				rows[place/3][place%3] = sign * maxSample
				got, ok := impl.Lift2(kind, rows)
				holdRows(t, "Lift2 at the limit", got, ok, lift2Slow(kind, rows))
				rows[place/3][place%3] = sign * maxLifted
				unlift2Holds(t, kind, rows)
			}
		}
		for _, x := range []int{maxLifted, -maxLifted} {
			unlift2Holds(t, kind, plane(maxRows, maxRows, func(n int) []int { return slices.Repeat([]int{x}, n) }))
		}
	}
}

func TestLift2OfOneAndTheSame(t *testing.T) {
	for _, kind := range liftings {
		for _, x := range []int{0, 1, -1, -3, 1001, maxSample, -maxSample} {
			for _, shape := range planes {
				want := plane(shape[0], shape[1], func(n int) []int { return make([]int, n) })
				for at := range (shape[0] + 1) / 2 {
					copy(want[at], slices.Repeat([]int{x}, (shape[1]+1)/2))
				}
				got, ok := impl.Lift2(kind, plane(shape[0], shape[1], func(n int) []int { return slices.Repeat([]int{x}, n) }))
				holdRows(t, "Lift2 of a still plane", got, ok, want)
			}
		}
	}
}
