package tests

import (
	"math"
	"slices"
	"testing"

	"loop.example/g00043/impl"
)

// A twoLists is a call with two lists; beside each the other one is held still.
type twoLists func(a []int, b []int) ([]int, bool)

func newMemoryOfBoth(t *testing.T, what string, a, b []int, call twoLists) {
	t.Helper()
	untouchedInts(t, what, b, func(second []int) {
		newMemory(t, what, a, func(first []int) ([]int, bool) { return call(first, second) })
	})
	untouchedInts(t, what, a, func(first []int) {
		newMemory(t, what, b, func(second []int) ([]int, bool) { return call(first, second) })
	})
	if slices.Equal(a, b) {
		newMemory(t, what, a, func(both []int) ([]int, bool) { return call(both, both) })
	}
}

func TestResidueAnswersAreNewMemory(t *testing.T) {
	g := formSource(631)
	for _, n := range []int{1, 2, 4, 16, 256} {
		for _, p := range primes {
			list := g.residues(p, n)
			for _, back := range []bool{false, true} {
				newMemory(t, "Dft", list, func(list []int) ([]int, bool) { return impl.Dft(list, p, back) })
			}
		}
		newMemory(t, "Walsh", g.signal(impl.MaxSample, n), impl.Walsh)
		a := g.signal(maxTap, n)
		newMemoryOfBoth(t, "Around", a, g.signal(maxTap, n), impl.Around)
		newMemoryOfBoth(t, "Around", a, a, impl.Around)
		for _, b := range [][]int{a, {}, {1}, {0, 1}, {1, 2, 3}} {
			newMemoryOfBoth(t, "Convolve", a, b, impl.Convolve)
			for _, size := range []int{1, 3, maxPoints} {
				newMemoryOfBoth(t, "Blocks", a, b, func(a []int, b []int) ([]int, bool) { return impl.Blocks(a, b, size) })
			}
		}
	}
}

// apart lays each row into a room of its own with more behind it, and the rows too.
func apart(rows [][]int) [][]int {
	room := [][]int{}
	for _, row := range rows {
		room = append(room, append(slices.Clone(row), math.MinInt, 7)[:len(row)])
	}
	return append(room, []int{1, 2}, nil)[:len(rows)]
}

func fullRows(rows [][]int) [][]int {
	full := [][]int{}
	for _, row := range rows[:cap(rows)] {
		full = append(full, slices.Clone(row[:cap(row)]))
	}
	return full
}

// overwrite fills each row of an answer with a number of its own, and asks whether another one has felt it.
func overwrite(t *testing.T, rows [][]int) {
	t.Helper()
	for at, row := range rows {
		full := row[:cap(row)]
		for i := range full {
			full[i] = -at - 1
		}
	}
	for at, row := range rows {
		for _, x := range row[:cap(row)] {
			if x != -at-1 {
				t.Fatalf("the rows %d and %d share memory", at, -x-1)
			}
		}
	}
}

func TestResidueRowsAreNewMemory(t *testing.T) {
	g := formSource(632)
	for _, shape := range [][2]int{{1, 1}, {1, 4}, {4, 1}, {2, 2}, {8, 4}, {16, 32}} {
		for _, back := range []bool{false, true} {
			rows := apart(g.rows(impl.PrimeB, shape[0], shape[1]))
			ahead := fullRows(rows)
			first, ok := impl.Dft2(rows, impl.PrimeB, back)
			if !ok {
				t.Fatalf("Dft2 of %v is refused", rows)
			}
			want := fullRows(first)
			overwrite(t, first)
			if !slices.EqualFunc(fullRows(rows), ahead, slices.Equal[[]int]) {
				t.Errorf("Dft2 has written into its argument: %v", rows)
			}
			again, ok := impl.Dft2(rows, impl.PrimeB, back)
			holdRows(t, "Dft2, again,", again, ok, want[:len(first)])
		}
	}
}

// Rows that are one piece of memory are transformed as if they were several.
func TestResidueRowsThatAreOne(t *testing.T) {
	row := []int{1, 2, 3, 4}
	rows := [][]int{row, row}
	got, ok := impl.Dft2(rows, impl.PrimeC, false)
	holdRows(t, "Dft2", got, ok, dft2Slow([][]int{{1, 2, 3, 4}, {1, 2, 3, 4}}, impl.PrimeC, false))
	overwrite(t, got)
	holdSignal(t, "the row", row, true, []int{1, 2, 3, 4})
}

// What is refused is not written into either, nor handed out.
func TestResidueRefusedArgumentsStay(t *testing.T) {
	lists := append(noTaps(), noSignals()...)
	lists = append(lists, []int{1, 2, 3}, []int{1, -1}, []int{1, impl.PrimeA}, []int{})
	for _, list := range lists {
		untouchedInts(t, "what is refused", list, func(piece []int) {
			rows, _ := impl.Dft2([][]int{piece, piece, {1}}, impl.PrimeA, false)
			overwrite(t, rows)
			for _, got := range [][]int{
				listOf(impl.Dft(piece, impl.PrimeA, false)), listOf(impl.Dft(piece, impl.PrimeA, true)), listOf(impl.Dft(piece, 7, false)), listOf(impl.Walsh(piece)),
				listOf(impl.Convolve(piece, piece)), listOf(impl.Around(piece, piece)), listOf(impl.Around(piece, nil)), listOf(impl.Blocks(piece, piece, 3)), listOf(impl.Blocks(piece, piece, 0)),
			} {
				full := got[:cap(got)]
				for i := range full {
					full[i] = -9
				}
			}
		})
	}
}
