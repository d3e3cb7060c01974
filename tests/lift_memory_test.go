package tests

import (
	"slices"
	"testing"

	"loop.example/g00043/impl"
)

// liftedBoth hands out both lists of LiftOnce as rows of one answer.
func liftedBoth(t *testing.T, kind int, list []int) [][]int {
	t.Helper()
	low, high, ok := impl.LiftOnce(kind, list)
	if !ok {
		t.Fatalf("LiftOnce by %d of %v is refused", kind, list)
	}
	return [][]int{low, high}
}

func TestLiftOnceAnswersAreNewMemory(t *testing.T) {
	g := formSource(951)
	for _, kind := range liftings {
		for _, n := range liftLengths {
			list := g.signal(maxSample, n)
			untouchedInts(t, "LiftOnce", list, func(piece []int) {
				first := liftedBoth(t, kind, piece)
				want := [][]int{slices.Clone(first[0]), slices.Clone(first[1])}
				overwrite(t, first)
				holdSignal(t, "what was lifted", piece, true, list)
				holdRows(t, "LiftOnce, again,", liftedBoth(t, kind, piece), true, want)
			})
		}
	}
}

func TestLiftAnswersAreNewMemory(t *testing.T) {
	g := formSource(952)
	for _, kind := range liftings {
		for _, n := range liftLengths {
			list := g.signal(maxSample, n)
			for _, levels := range []int{0, 1, 2, maxLevels} {
				newMemory(t, "Lift", list, func(list []int) ([]int, bool) { return impl.Lift(kind, list, levels) })
				newMemory(t, "Unlift", list, func(list []int) ([]int, bool) { return impl.Unlift(kind, list, levels) })
			}
			split := (n + 1) / 2
			newMemoryOfBoth(t, "LiftBack", list[:split], list[split:], func(low []int, high []int) ([]int, bool) { return impl.LiftBack(kind, low, high) })
			newMemoryOfBoth(t, "LiftBack", list[:n/2], list[:n/2], func(low []int, high []int) ([]int, bool) { return impl.LiftBack(kind, low, high) })
		}
	}
}

// The low and the high numbers may stand in one list, in either order.
func TestLiftBackOfOneList(t *testing.T) {
	for _, kind := range liftings {
		list := []int{4, -3, 8, 1, 0, -9}
		want, _ := impl.LiftBack(kind, []int{4, -3, 8}, []int{1, 0, -9})
		got, ok := impl.LiftBack(kind, list[:3], list[3:])
		holdSignal(t, "LiftBack of the pieces", got, ok, want)
		want, _ = impl.LiftBack(kind, []int{1, 0, -9}, []int{4, -3, 8})
		got, ok = impl.LiftBack(kind, list[3:], list[:3])
		holdSignal(t, "LiftBack of the pieces", got, ok, want)
		holdSignal(t, "the list", list, true, []int{4, -3, 8, 1, 0, -9})
	}
}

func rowsNew(t *testing.T, what string, rows [][]int, call func(rows [][]int) ([][]int, bool)) {
	t.Helper()
	rows = apart(rows)
	ahead := fullRows(rows)
	first, ok := call(rows)
	if !ok {
		t.Fatalf("%s of %v is refused", what, rows)
	}
	want := [][]int{}
	for _, row := range first {
		want = append(want, slices.Clone(row))
	}
	overwrite(t, first)
	for at := range first {
		first[at] = nil
	}
	if !slices.EqualFunc(fullRows(rows), ahead, slices.Equal[[]int]) {
		t.Errorf("%s has written into its argument: %v", what, rows)
	}
	again, ok := call(rows)
	holdRows(t, what+", again,", again, ok, want)
}

func TestLift2AnswersAreNewMemory(t *testing.T) {
	g := formSource(953)
	for _, kind := range liftings {
		for _, shape := range append(planes, [2]int{0, 0}, [2]int{3, 0}) {
			rows := plane(shape[0], shape[1], func(n int) []int { return g.signal(maxSample, n) })
			rowsNew(t, "Lift2", rows, func(rows [][]int) ([][]int, bool) { return impl.Lift2(kind, rows) })
			rowsNew(t, "Unlift2", rows, func(rows [][]int) ([][]int, bool) { return impl.Unlift2(kind, rows) })
		}
	}
}

// Rows that are one piece of memory are lifted as if they were several.
func TestLift2OfRowsThatAreOne(t *testing.T) {
	row := []int{1, -2, 3, -4, 5}
	several := [][]int{slices.Clone(row), slices.Clone(row), slices.Clone(row)}
	for _, kind := range liftings {
		got, ok := impl.Lift2(kind, [][]int{row, row, row})
		holdRows(t, "Lift2", got, ok, lift2Slow(kind, several))
		overwrite(t, got)
		want, _ := impl.Unlift2(kind, several)
		back, ok := impl.Unlift2(kind, [][]int{row, row, row})
		holdRows(t, "Unlift2", back, ok, want)
		overwrite(t, back)
		holdSignal(t, "the row", row, true, []int{1, -2, 3, -4, 5})
	}
}

func TestQuietAnswersAreNewMemory(t *testing.T) {
	g := formSource(954)
	for _, n := range []int{0, 1, 2, 10, maxSignal} {
		for _, least := range []int{-1, 0, 1, 50, 1000} {
			newMemory(t, "Quiet", g.signal(100, n), func(list []int) ([]int, bool) {
				quiet, _ := impl.Quiet(list, least)
				return quiet, true
			})
		}
	}
}

// What is refused is not written into either, nor handed out.
func TestLiftRefusedArgumentsStay(t *testing.T) {
	for _, list := range append(noSignals(), []int{1, 2, 3}, []int{}, []int{5}) {
		for _, kind := range []int{0, 1, 2, 3, 4} {
			untouchedInts(t, "what is refused", list, func(piece []int) {
				low, high, _ := impl.LiftOnce(kind, piece)
				overwrite(t, [][]int{low, high})
				overwrite(t, [][]int{listOf(impl.LiftBack(kind, piece, piece)), listOf(impl.LiftBack(kind, nil, piece)), listOf(impl.LiftBack(kind, piece, nil))})
				overwrite(t, [][]int{listOf(impl.Lift(kind, piece, 1)), listOf(impl.Lift(kind, piece, -1)), listOf(impl.Unlift(kind, piece, 1)), listOf(impl.Unlift(kind, piece, 9))})
				for _, rows := range [][][]int{{piece}, {piece, piece}, {piece, {1}}} {
					there, _ := impl.Lift2(kind, rows)
					overwrite(t, there)
					back, _ := impl.Unlift2(kind, rows)
					overwrite(t, back)
				}
			})
		}
	}
}
