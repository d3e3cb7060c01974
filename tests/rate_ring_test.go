package tests

import (
	"math"
	"slices"
	"testing"

	"loop.example/g00043/impl"
)

var ringSizes = []int{1, 2, 3, 7, 64, maxSignal - 1, maxSignal}

func (g *formSource) ring(most int, count int) impl.Ring {
	return impl.Ring{Cells: g.atEnds(most, count), At: int(g.next() % uint64(count))}
}

func TestRatePushByHand(t *testing.T) {
	const most = maxSample
	for _, c := range []struct {
		r      impl.Ring
		list   []int
		behind impl.Ring
		want   []int
	}{
		{impl.Ring{Cells: []int{5}}, nil, impl.Ring{Cells: []int{5}}, nil}, {impl.Ring{Cells: []int{5}}, []int{7}, impl.Ring{Cells: []int{7}}, []int{5}}, {impl.Ring{Cells: []int{5}}, []int{7, 8, 9}, impl.Ring{Cells: []int{9}}, []int{5, 7, 8}},
		{impl.Ring{Cells: []int{1, 2, 3}, At: 2}, []int{7, 8}, impl.Ring{Cells: []int{8, 2, 7}, At: 1}, []int{3, 1}}, {impl.Ring{Cells: []int{1, 2, 3}, At: 2}, []int{}, impl.Ring{Cells: []int{1, 2, 3}, At: 2}, nil}, {impl.Ring{Cells: []int{1, 2, 3}}, []int{7}, impl.Ring{Cells: []int{7, 2, 3}, At: 1}, []int{1}}, {impl.Ring{Cells: []int{1, 2, 3}, At: 2}, []int{7}, impl.Ring{Cells: []int{1, 2, 7}}, []int{3}},
		{impl.Ring{Cells: []int{1, 2, 3}, At: 1}, []int{7, 8, 9}, impl.Ring{Cells: []int{9, 7, 8}, At: 1}, []int{2, 3, 1}}, {impl.Ring{Cells: []int{1, 2, 3}, At: 1}, []int{7, 8, 9, 10}, impl.Ring{Cells: []int{9, 10, 8}, At: 2}, []int{2, 3, 1, 7}}, {impl.Ring{Cells: []int{1, 2}, At: 1}, []int{7, 8, 9, 10, 11}, impl.Ring{Cells: []int{10, 11}}, []int{2, 1, 7, 8, 9}},
		{impl.Ring{Cells: []int{most, -most}}, []int{-most, most}, impl.Ring{Cells: []int{-most, most}}, []int{most, -most}}, {impl.Ring{Cells: []int{0, 0}, At: 1}, []int{most}, impl.Ring{Cells: []int{0, most}}, []int{0}},
	} {
		r, told, ok := impl.Push(c.r, c.list)
		holdRing(t, "Push by hand", r, told, ok, c.behind, c.want)
		r, told = pushSlow(c.r, c.list)
		holdRing(t, "the oracle by hand", r, told, true, c.behind, c.want)
	}
}

func pushHolds(t *testing.T, r impl.Ring, list []int) {
	t.Helper()
	behind, told, ok := impl.Push(r, list)
	wantRing, want := pushSlow(r, list)
	holdRing(t, "Push", behind, told, ok, wantRing, want)
}

func TestRatePushOfAllLengths(t *testing.T) {
	g := formSource(1131)
	for _, n := range ringSizes {
		for _, at := range []int{0, 1, n / 2, n - 2, n - 1} {
			for _, length := range []int{0, 1, 2, n - 1, n, n + 1, 2*n - 1, 2 * n, 3*n + 1, maxSignal - 1, maxSignal} {
				if at >= 0 && at < n && length <= maxSignal {
					pushHolds(t, impl.Ring{Cells: g.signal(maxSample, n), At: at}, g.signal(maxSample, length))
					pushHolds(t, impl.Ring{Cells: g.atEnds(maxSample, n), At: at}, g.atEnds(maxSample, length))
				}
			}
		}
	}
	for n := 1; n <= 6; n++ {
		for at := range n {
			for length := range 14 {
				pushHolds(t, impl.Ring{Cells: g.signal(9, n), At: at}, g.signal(9, length))
			}
		}
	}
}

func TestRatePushThatIsRefused(t *testing.T) {
	for _, r := range noRings() {
		for _, list := range [][]int{nil, {}, {1}, {1, 2, 3}, make([]int, maxSignal+1)} {
			behind, told, ok := impl.Push(r, list)
			noRing(t, "Push into no ring", behind, told, ok)
		}
	}
	for _, list := range noSignals() {
		for _, n := range []int{1, 3, maxSignal} {
			for _, at := range []int{0, n - 1, n, -1} {
				behind, told, ok := impl.Push(impl.Ring{Cells: slices.Repeat([]int{6}, n), At: at}, list)
				noRing(t, "Push of no signal", behind, told, ok)
			}
		}
	}
}

// A ring gives back a ring later: ahead of it comes what it held, in the order in which that was written.
func TestRatePushTellsAWholeRingLater(t *testing.T) {
	g := formSource(1132)
	for _, n := range ringSizes {
		for _, length := range []int{0, 1, 2, n - 1, n, n + 1, maxSignal} {
			if length > maxSignal {
				continue
			}
			r, list := g.ring(maxSample, n), g.atEnds(maxSample, length)
			held := oldestFirst(r)
			behind, told, ok := impl.Push(r, list)
			_, rest, okRest := impl.Push(behind, make([]int, n))
			holdSignal(t, "what a ring tells", slices.Concat(told, rest), ok && okRest, slices.Concat(held, list))
			if n+length <= maxSignal {
				_, told, ok := impl.Push(r, append(slices.Clone(list), make([]int, n)...))
				holdSignal(t, "what a ring tells in one", told, ok, slices.Concat(held, list))
			}
		}
	}
}

func TestRatePushInPieces(t *testing.T) {
	g := formSource(1133)
	for _, n := range []int{1, 2, 3, 7, 20, maxSignal} {
		r, list := g.ring(maxSample, n), g.atEnds(maxSample, 40)
		wantRing, want, ok := impl.Push(r, list)
		for at := range len(list) + 1 {
			between, head, okHead := impl.Push(r, list[:at])
			behind, tail, okTail := impl.Push(between, list[at:])
			holdRing(t, "Push in two pieces", behind, slices.Concat(head, tail), ok && okHead && okTail, wantRing, want)
		}
		behind, told := r, []int{}
		for _, x := range list {
			next, one, okOne := impl.Push(behind, []int{x})
			ok = ok && okOne
			behind, told = next, append(told, one...)
		}
		holdRing(t, "Push sample by sample", behind, told, ok, wantRing, want)
	}
}

func TestRateTapByHand(t *testing.T) {
	for _, c := range []struct {
		r          impl.Ring
		back, want int
	}{
		{impl.Ring{Cells: []int{5}}, 1, 5}, {impl.Ring{Cells: []int{-maxSample}}, 1, -maxSample}, {impl.Ring{Cells: []int{1, maxSample}}, 1, maxSample},
		{impl.Ring{Cells: []int{1, 2, 3}}, 1, 3}, {impl.Ring{Cells: []int{1, 2, 3}}, 2, 2}, {impl.Ring{Cells: []int{1, 2, 3}}, 3, 1}, {impl.Ring{Cells: []int{1, 2, 3}, At: 1}, 1, 1}, {impl.Ring{Cells: []int{1, 2, 3}, At: 1}, 2, 3}, {impl.Ring{Cells: []int{1, 2, 3}, At: 1}, 3, 2}, {impl.Ring{Cells: []int{1, 2, 3}, At: 2}, 1, 2}, {impl.Ring{Cells: []int{1, 2, 3}, At: 2}, 2, 1}, {impl.Ring{Cells: []int{1, 2, 3}, At: 2}, 3, 3},
	} {
		x, ok := impl.Tap(c.r, c.back)
		holdTap(t, "Tap by hand", x, ok, c.want)
	}
}

func TestRateTapOfAllPlaces(t *testing.T) {
	g := formSource(1134)
	for _, n := range ringSizes {
		for _, at := range []int{0, n / 2, n - 1} {
			r := impl.Ring{Cells: g.signal(maxSample, n), At: at}
			held := oldestFirst(r)
			for back := 1; back <= n; back++ {
				x, ok := impl.Tap(r, back)
				holdTap(t, "Tap", x, ok, held[n-back])
			}
		}
	}
}

func TestRateTapThatIsRefused(t *testing.T) {
	for _, r := range noRings() {
		for _, back := range []int{1, 2, 0, -1, len(r.Cells), len(r.Cells) + 1} {
			x, ok := impl.Tap(r, back)
			noTap(t, "Tap of no ring", x, ok)
		}
	}
	for _, n := range ringSizes {
		for _, at := range []int{0, n - 1} {
			r := impl.Ring{Cells: slices.Repeat([]int{5}, n), At: at}
			for _, back := range []int{0, n + 1, -1, n + 2, -n, 2 * n, 2*n + 1, 1 << 32, 1<<32 + 1, -1 << 32, math.MaxInt, math.MinInt, math.MinInt + 1} {
				if back < 1 || back > n {
					x, ok := impl.Tap(r, back)
					noTap(t, "Tap from no place", x, ok)
				}
			}
		}
	}
}

// What was pushed is tapped from its end on, and what the ring held before behind it.
func TestRateTapBehindPush(t *testing.T) {
	g := formSource(1135)
	for _, n := range ringSizes {
		for _, length := range []int{0, 1, 2, n - 1, n, n + 1, maxSignal} {
			if length > maxSignal {
				continue
			}
			r, list := g.ring(maxSample, n), g.signal(maxSample, length)
			row := slices.Concat(oldestFirst(r), list)
			behind, _, okPush := impl.Push(r, list)
			for back := 1; back <= n; back++ {
				x, ok := impl.Tap(behind, back)
				holdTap(t, "Tap behind Push", x, ok && okPush, row[len(row)-back])
			}
			x, ok := impl.Tap(behind, n+1)
			noTap(t, "Tap of what was told", x, ok)
		}
	}
}
