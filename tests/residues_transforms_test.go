package tests

import (
	"math"
	"slices"
	"testing"

	"loop.example/g00043/impl"
)

func dftHolds(t *testing.T, list []int, p int) {
	t.Helper()
	for _, back := range []bool{false, true} {
		got, ok := impl.Dft(list, p, back)
		holdSignal(t, "Dft", got, ok, dftSlow(list, p, back))
	}
}

func TestResidueDftByHand(t *testing.T) {
	const p = impl.PrimeA
	v, w := impl.Unit(8, p), impl.Unit(4, p)
	for _, c := range []struct{ list, there []int }{
		{[]int{0}, []int{0}}, {[]int{7}, []int{7}}, {[]int{p - 1}, []int{p - 1}}, {[]int{1, 2}, []int{3, p - 1}}, {[]int{p - 1, p - 1}, []int{p - 2, 0}}, {[]int{0, p - 1}, []int{p - 1, 1}},
		{[]int{1, 0, 0, 0}, []int{1, 1, 1, 1}}, {[]int{0, 1, 0, 0}, []int{1, w, p - 1, p - w}}, {[]int{0, 0, 1, 0}, []int{1, p - 1, 1, p - 1}}, {[]int{0, 0, 0, 1}, []int{1, p - w, p - 1, w}},
		{[]int{1, 1, 1, 1}, []int{4, 0, 0, 0}}, {[]int{p - 1, p - 1, p - 1, p - 1}, []int{p - 4, 0, 0, 0}}, {make([]int, 8), make([]int, 8)},
		{[]int{0, 1, 0, 0, 0, 0, 0, 0}, []int{1, v, w, v * w % p, p - 1, p - v, p - w, p - v*w%p}},
	} {
		got, ok := impl.Dft(c.list, p, false)
		holdSignal(t, "Dft", got, ok, c.there)
	}
	for _, c := range []struct{ list, back []int }{
		{[]int{7}, []int{7}}, {[]int{3, p - 1}, []int{1, 2}}, {[]int{1, 0}, []int{(p + 1) / 2, (p + 1) / 2}}, {[]int{4, 0, 0, 0}, []int{1, 1, 1, 1}}, {[]int{0, 4, 0, 0}, []int{1, p - w, p - 1, w}}, {[]int{0, 0, 0, 4}, []int{1, w, p - 1, p - w}},
	} {
		got, ok := impl.Dft(c.list, p, true)
		holdSignal(t, "Dft back", got, ok, c.back)
	}
}

func TestResidueDft(t *testing.T) {
	g := formSource(611)
	for _, p := range primes {
		for _, n := range wholes {
			dftHolds(t, make([]int, n), p)
			dftHolds(t, slices.Repeat([]int{p - 1}, n), p)
			one := make([]int, n)
			one[n-1] = p - 1
			dftHolds(t, one, p)
			for range 3 {
				dftHolds(t, g.residues(p, n), p)
			}
		}
	}
}

// There and back, and back and there, is the list; the first number is the sum of all.
func TestResidueDftComesBack(t *testing.T) {
	g := formSource(612)
	for _, p := range primes {
		for _, n := range wholes {
			for range 20 {
				list := g.residues(p, n)
				there, ok := impl.Dft(list, p, false)
				if !ok || len(there) != n {
					t.Fatalf("Dft of %v is %v %v", list, there, ok)
				}
				holdInt(t, "the first number of Dft", there[0], sumOfInts(list)%p, list)
				again, ok := impl.Dft(there, p, true)
				holdSignal(t, "Dft back of Dft", again, ok, list)
				back, ok := impl.Dft(list, p, true)
				if !ok {
					t.Fatalf("Dft back of %v is refused", list)
				}
				again, ok = impl.Dft(back, p, false)
				holdSignal(t, "Dft of Dft back", again, ok, list)
			}
		}
	}
}

func TestResidueDftThatIsNone(t *testing.T) {
	for _, back := range []bool{false, true} {
		for _, p := range primes {
			for _, n := range noWholes {
				got, ok := impl.Dft(make([]int, n), p, back)
				noSignal(t, "Dft of a length that is not whole", got, ok)
			}
			got, ok := impl.Dft(nil, p, back)
			noSignal(t, "Dft of nothing", got, ok)
			for _, n := range []int{1024, 1 << 16} {
				got, ok := impl.Dft(make([]int, n), p, back)
				noSignal(t, "Dft of more than MaxPoints", got, ok)
			}
			for _, bad := range noResidues(p) {
				for _, list := range [][]int{{bad}, {bad, 0}, {0, bad}, {1, 2, bad, 4}, append(make([]int, 255), bad), append([]int{bad}, make([]int, 255)...)} {
					got, ok := impl.Dft(list, p, back)
					noSignal(t, "Dft of no residues", got, ok)
				}
			}
		}
		for _, p := range noPrimes {
			for _, list := range [][]int{{0}, {1, 0}, {0, 0, 0, 0}, {}} {
				got, ok := impl.Dft(list, p, back)
				noSignal(t, "Dft by no prime", got, ok)
			}
		}
		// A row for the one prime may be none for another.
		got, ok := impl.Dft([]int{impl.PrimeB, 0}, impl.PrimeA, back)
		if !ok {
			t.Errorf("Dft of a residue is %v %v", got, ok)
		}
		got, ok = impl.Dft([]int{impl.PrimeA - 1, 0}, impl.PrimeC, back)
		noSignal(t, "Dft of another prime's residues", got, ok)
	}
	got, ok := impl.Dft([]int{1, 2, math.MaxInt, 3}[:2], impl.PrimeA, false)
	holdSignal(t, "Dft of a piece", got, ok, []int{3, impl.PrimeA - 1})
}

func TestResidueDft2ByHand(t *testing.T) {
	const p = impl.PrimeA
	got, ok := impl.Dft2([][]int{{1, 2}, {3, 4}}, p, false)
	holdRows(t, "Dft2", got, ok, [][]int{{10, p - 2}, {p - 4, 0}})
	got, ok = impl.Dft2([][]int{{10, p - 2}, {p - 4, 0}}, p, true)
	holdRows(t, "Dft2 back", got, ok, [][]int{{1, 2}, {3, 4}})
	got, ok = impl.Dft2([][]int{{7}}, p, false)
	holdRows(t, "Dft2 of one number", got, ok, [][]int{{7}})
	got, ok = impl.Dft2([][]int{{0, 1}, {0, 0}}, p, false)
	holdRows(t, "Dft2", got, ok, [][]int{{1, p - 1}, {1, p - 1}})
	got, ok = impl.Dft2([][]int{{0, 0}, {1, 0}}, p, false)
	holdRows(t, "Dft2", got, ok, [][]int{{1, 1}, {p - 1, p - 1}})
	w := impl.Unit(4, p)
	got, ok = impl.Dft2([][]int{{0}, {1}, {0}, {0}}, p, false)
	holdRows(t, "Dft2 of a column", got, ok, [][]int{{1}, {w}, {p - 1}, {p - w}})
	got, ok = impl.Dft2([][]int{{0}, {4}, {0}, {0}}, p, true)
	holdRows(t, "Dft2 back of a column", got, ok, [][]int{{1}, {p - w}, {p - 1}, {w}})
}

func dft2Holds(t *testing.T, rows [][]int, p int) {
	t.Helper()
	for _, back := range []bool{false, true} {
		got, ok := impl.Dft2(rows, p, back)
		holdRows(t, "Dft2", got, ok, dft2Slow(rows, p, back))
		again, ok := impl.Dft2(got, p, !back)
		holdRows(t, "Dft2 there and back", again, ok, rows)
		across, ok := impl.Dft2(turnedAround(rows), p, back)
		holdRows(t, "Dft2 of rows and columns turned around", across, ok, turnedAround(got))
	}
}

func TestResidueDft2(t *testing.T) {
	g := formSource(613)
	for _, p := range primes {
		for _, shape := range [][2]int{{1, 1}, {1, 2}, {2, 1}, {1, 8}, {8, 1}, {2, 2}, {2, 4}, {4, 2}, {4, 4}, {8, 4}, {16, 16}, {1, 256}, {256, 1}} {
			dft2Holds(t, g.rows(p, shape[0], shape[1]), p)
		}
		row := g.residues(p, 64)
		for _, back := range []bool{false, true} {
			got, ok := impl.Dft2([][]int{row}, p, back)
			holdRows(t, "Dft2 of one row", got, ok, [][]int{dftSlow(row, p, back)})
		}
	}
}

// Of MaxPoints rows of MaxPoints numbers the sum of all and some columns are worked out one by one.
func TestResidueDft2OfMaxPoints(t *testing.T) {
	const n = impl.MaxPoints
	g := formSource(614)
	for _, p := range primes {
		rows := g.rows(p, n, n)
		rows[0] = slices.Repeat([]int{p - 1}, n)
		there, ok := impl.Dft2(rows, p, false)
		if !ok || len(there) != n {
			t.Fatalf("Dft2 has %d rows, %v", len(there), ok)
		}
		sum := 0
		flat := [][]int{}
		for _, row := range rows {
			sum += sumOfInts(row)
			flat = append(flat, listOf(impl.Dft(row, p, false)))
		}
		holdInt(t, "the first number of Dft2", there[0][0], sum%p)
		columns, wanted := turnedAround(there), turnedAround(flat)
		for _, at := range []int{0, 1, 2, 127, 128, 255} {
			holdSignal(t, "a column of Dft2", columns[at], true, dftSlow(wanted[at], p, false))
		}
		again, ok := impl.Dft2(there, p, true)
		holdRows(t, "Dft2 there and back", again, ok, rows)
	}
}

func TestResidueDft2ThatIsNone(t *testing.T) {
	for _, back := range []bool{false, true} {
		for _, p := range primes {
			for _, rows := range [][][]int{
				nil, {}, {{}}, {nil}, {{}, {}}, {{1}, {}}, {{}, {1}}, {{1, 2}, {1}}, {{1}, {1, 2}}, {{1, 2}, {1, 2, 3, 4}}, {{1, 2}, {1, 2}, {1, 2}, {1}}, {{1}, {1, 2}, {1, 2}, {1, 2}}, {{1, 2}, {3, 4}, {5}, {6, 7}},
				{{1, 2, 3}}, {{1, 2, 3}, {1, 2, 3}}, {{1}, {2}, {3}}, {{1, 2}, {3, 4}, {5, 6}}, make([][]int, 256), make([][]int, 512), {make([]int, 512)}, {make([]int, 512), make([]int, 512)},
			} {
				got, ok := impl.Dft2(rows, p, back)
				noRows(t, "Dft2", got, ok)
			}
			for _, count := range append([]int{1024, 1 << 16}, noWholes...) {
				got, ok := impl.Dft2(slices.Repeat([][]int{{1, 2}}, count), p, back)
				noRows(t, "Dft2 of a number of rows that is not whole", got, ok)
			}
			for _, bad := range noResidues(p) {
				for _, rows := range [][][]int{{{bad}}, {{bad, 0}, {0, 0}}, {{0, 0}, {0, bad}}, {{0}, {bad}, {0}, {0}}} {
					got, ok := impl.Dft2(rows, p, back)
					noRows(t, "Dft2 of no residues", got, ok)
				}
			}
		}
		for _, p := range noPrimes {
			for _, rows := range [][][]int{{{0}}, {{0, 0}, {0, 0}}, {}} {
				got, ok := impl.Dft2(rows, p, back)
				noRows(t, "Dft2 by no prime", got, ok)
			}
		}
	}
}

func TestResidueWalsh(t *testing.T) {
	const most = impl.MaxSample
	for _, c := range []struct{ list, want []int }{
		{[]int{5}, []int{5}}, {[]int{-most}, []int{-most}}, {[]int{1, 2}, []int{3, -1}}, {[]int{most, -most}, []int{0, 2 * most}}, {[]int{1, 2, 3, 4}, []int{10, -2, -4, 0}},
		{[]int{0, 1, 0, 0}, []int{1, -1, 1, -1}}, {[]int{0, 0, 1, 0}, []int{1, 1, -1, -1}}, {[]int{0, 0, 0, 1}, []int{1, -1, -1, 1}}, {[]int{0, 0, 0, 0, 0, 0, 0, 1}, []int{1, -1, -1, 1, -1, 1, 1, -1}},
		{slices.Repeat([]int{most}, 256), append([]int{256 * most}, make([]int, 255)...)}, {slices.Repeat([]int{most, -most}, 128), append([]int{0, 256 * most}, make([]int, 254)...)},
	} {
		got, ok := impl.Walsh(c.list)
		holdSignal(t, "Walsh", got, ok, c.want)
	}
	g := formSource(615)
	for _, n := range wholes {
		for _, most := range []int{1, 1000, impl.MaxSample} {
			for range 5 {
				list := g.signal(most, n)
				got, ok := impl.Walsh(list)
				holdSignal(t, "Walsh", got, ok, walshSlow(list))
			}
		}
	}
}

func TestResidueWalshTwice(t *testing.T) {
	g := formSource(616)
	for _, n := range wholes {
		for range 20 {
			list := g.signal(impl.MaxSample/n, n)
			once, ok := impl.Walsh(list)
			if !ok {
				t.Fatalf("Walsh of %v is refused", list)
			}
			want := []int{}
			for _, x := range list {
				want = append(want, n*x)
			}
			twice, ok := impl.Walsh(once)
			holdSignal(t, "Walsh of Walsh", twice, ok, want)
		}
	}
}

func TestResidueWalshThatIsNone(t *testing.T) {
	for _, n := range noWholes {
		got, ok := impl.Walsh(make([]int, n))
		noSignal(t, "Walsh of a length that is not whole", got, ok)
	}
	got, ok := impl.Walsh(nil)
	noSignal(t, "Walsh of nothing", got, ok)
	for _, list := range noSignals() {
		got, ok := impl.Walsh(list)
		noSignal(t, "Walsh of no signal", got, ok)
	}
	for _, bad := range []int{impl.MaxSample + 1, -impl.MaxSample - 1, math.MaxInt, math.MinInt} {
		for _, list := range [][]int{{bad}, {bad, 0}, {0, bad}, {0, 0, bad, 0}, append(make([]int, 255), bad)} {
			got, ok := impl.Walsh(list)
			noSignal(t, "Walsh of no samples", got, ok)
		}
	}
}
