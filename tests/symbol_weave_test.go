package tests

import (
	"math"
	"testing"

	"loop.example/g00043/impl"
)

var (
	someWoven = []int{1, 2, 3, 4, 5, 7, 8, 12, 16, 31, 32, 33, 62, 63, maxWoven}
	notWoven  = []int{0, 65, -1, 66, 100, -2, -64, 128, 1024, 1 << 32, 1<<32 + 1, 1<<32 + 64, 1 - 1<<32, math.MaxInt, math.MinInt, math.MinInt + 1}
)

func TestSymbolWeaveByHand(t *testing.T) {
	for _, c := range []struct {
		list []int
		rows int
		want []int
	}{
		{[]int{1, 2, 3, 4, 5}, 2, []int{1, 4, 2, 5, 3}}, {nil, 1, nil}, {[]int{}, 64, nil}, {[]int{7}, 1, []int{7}}, {[]int{7}, 64, []int{7}}, {[]int{7, 8, 9}, 1, []int{7, 8, 9}}, {[]int{7, 8, 9}, 3, []int{7, 8, 9}}, {[]int{7, 8, 9}, 64, []int{7, 8, 9}},
		{[]int{1, 2, 3, 4}, 2, []int{1, 3, 2, 4}}, {[]int{1, 2, 3, 4, 5, 6}, 2, []int{1, 4, 2, 5, 3, 6}}, {[]int{1, 2, 3, 4, 5, 6}, 3, []int{1, 3, 5, 2, 4, 6}}, {[]int{1, 2, 3, 4, 5, 6, 7}, 3, []int{1, 4, 7, 2, 5, 3, 6}}, {[]int{1, 2, 3, 4, 5, 6, 7, 8}, 3, []int{1, 4, 7, 2, 5, 8, 3, 6}},
		// Rows of two: the third is short, the fourth is empty.
		{[]int{1, 2, 3, 4, 5}, 4, []int{1, 3, 5, 2, 4}},
		// Rows of two: the last two are empty.
		{[]int{1, 2, 3, 4, 5, 6}, 5, []int{1, 3, 5, 2, 4, 6}},
		// Rows of three: the fourth has two, the fifth nothing.
		{[]int{1, 2, 3, 4, 5, 6, 7, 8, 9, 10, 11}, 5, []int{1, 4, 7, 10, 2, 5, 8, 11, 3, 6, 9}},
		{[]int{math.MinInt, math.MaxInt, -1, 1 << 40}, 2, []int{math.MinInt, -1, math.MaxInt, 1 << 40}},
	} {
		got, ok := impl.Weave(c.list, c.rows)
		holdSignal(t, "Weave by hand", got, ok, c.want)
		back, ok := impl.Unweave(c.want, c.rows)
		holdSignal(t, "Unweave by hand", back, ok, c.list)
		holdSignal(t, "the oracle of Weave by hand", weaveSlow(c.list, c.rows), true, c.want)
		holdSignal(t, "the oracle of Unweave by hand", unweaveSlow(c.want, c.rows), true, c.list)
	}
}

func weaveHolds(t *testing.T, list []int, rows int) {
	t.Helper()
	told, ok := impl.Weave(list, rows)
	holdSignal(t, "Weave", told, ok, weaveSlow(list, rows))
	back, ok := impl.Unweave(told, rows)
	holdSignal(t, "Unweave of Weave", back, ok, list)
	told, ok = impl.Unweave(list, rows)
	holdSignal(t, "Unweave", told, ok, unweaveSlow(list, rows))
	back, ok = impl.Weave(told, rows)
	holdSignal(t, "Weave of Unweave", back, ok, list)
}

func TestSymbolWeaveOfShortLists(t *testing.T) {
	for n := range 140 {
		for rows := 1; rows <= maxWoven; rows++ {
			weaveHolds(t, counted(n), rows)
		}
	}
}

func TestSymbolWeaveOfManyLists(t *testing.T) {
	g := formSource(1331)
	for _, rows := range someWoven {
		for _, n := range append([]int{rows - 1, rows, rows + 1, 2*rows - 1, 2 * rows, 2*rows + 1, 3*rows - 1, 7 * rows, maxBits / rows * rows, maxBits/rows*rows - 1}, bitLengths...) {
			weaveHolds(t, g.signal(math.MaxInt/2, n), rows)
			weaveHolds(t, g.flips(n), rows)
		}
		weaveHolds(t, []int{math.MinInt, math.MaxInt, 0, -1, 2, math.MinInt, 1 << 32}, rows)
	}
	for range 100 {
		weaveHolds(t, g.signal(3, int(g.next()%(maxBits+1))), int(g.next()%maxWoven)+1)
	}
}

// With one row, or at least as many rows as numbers, nothing changes its place.
func TestSymbolWeaveThatChangesNothing(t *testing.T) {
	for n := range maxWoven + 1 {
		for _, rows := range []int{1, max(n, 1), maxWoven} {
			got, ok := impl.Weave(counted(n), rows)
			holdSignal(t, "Weave of few numbers", got, ok, counted(n))
		}
	}
	got, ok := impl.Weave(counted(maxBits), 1)
	holdSignal(t, "Weave in one row", got, ok, counted(maxBits))
}

// Where rows divide the length, weaving back is weaving in as many rows as there were columns.
func TestSymbolUnweaveIsWeaveTurned(t *testing.T) {
	for rows := 1; rows <= maxWoven; rows++ {
		for columns := 1; columns <= min(maxWoven, maxBits/rows); columns++ {
			list := counted(rows * columns)
			want, _ := impl.Weave(list, columns)
			got, ok := impl.Unweave(list, rows)
			holdSignal(t, "Unweave", got, ok, want)
		}
	}
}

// burstHolds hurts so many places of a woven list, one behind the other, and asks how near to each other they stand when it is woven back.
func burstHolds(t *testing.T, n, rows, from, count int) {
	t.Helper()
	hurt := make([]int, n)
	for at := range count {
		hurt[from+at] = 1
	}
	back, ok := impl.Unweave(hurt, rows)
	if !ok || sumOfInts(back) != count {
		t.Fatalf("Unweave of %d numbers by %d rows loses some: %v", n, rows, ok)
	}
	length, last := n/rows, -n
	for at, x := range back {
		if x == 1 && at-last < length-1 {
			t.Errorf("of a burst of %d at %d of %d numbers in %d rows two are %d apart", count, from, n, rows, at-last)
		}
		// Within one column they are whole rows apart.
		if x == 1 && last >= 0 && from/rows == (from+count-1)/rows && (at-last)%length != 0 {
			t.Errorf("of a burst of %d at %d of %d numbers in %d rows two are %d apart, no whole rows", count, from, n, rows, at-last)
		}
		if x == 1 {
			last = at
		}
	}
}

func TestSymbolBurstsAreSpread(t *testing.T) {
	for _, rows := range []int{1, 2, 3, 4, 7, 8, 16, 31, 63, maxWoven} {
		for _, length := range []int{1, 2, 3, 5, 8, 16} {
			n := rows * length
			for from := range n {
				burstHolds(t, n, rows, from, min(rows, n-from))
				burstHolds(t, n, rows, from, min((rows+1)/2, n-from))
			}
		}
	}
	for _, rows := range []int{2, 32, maxWoven} {
		for _, from := range []int{0, 1, rows - 1, rows, maxBits / 2, maxBits - rows - 1, maxBits - rows} {
			burstHolds(t, maxBits, rows, from, rows)
		}
	}
}

func TestSymbolWeaveThatIsRefused(t *testing.T) {
	noWeave := func(what string, list []int, rows int) {
		t.Helper()
		got, ok := impl.Weave(list, rows)
		noSignal(t, "Weave of "+what, got, ok)
		got, ok = impl.Unweave(list, rows)
		noSignal(t, "Unweave of "+what, got, ok)
	}
	for _, rows := range notWoven {
		for _, list := range [][]int{nil, {}, {5}, {1, 2, 3}, counted(65), counted(maxBits), counted(maxBits + 1)} {
			noWeave("no rows", list, rows)
		}
	}
	for _, rows := range append([]int{0, -1, 65}, someWoven...) {
		for _, n := range []int{maxBits + 1, maxBits + 2, 2 * maxBits, 5000} {
			noWeave("too many numbers", counted(n), rows)
			noWeave("too many bits", make([]int, n), rows)
		}
	}
	for rows := 1; rows <= maxWoven; rows++ {
		weaveHolds(t, counted(maxBits), rows)
	}
}
