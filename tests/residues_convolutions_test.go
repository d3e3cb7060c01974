package tests

import (
	"math"
	"slices"
	"testing"

	"loop.example/g00043/impl"
)

const maxTap, maxPoints = impl.MaxTap, impl.MaxPoints

// noTaps are too long, or have a number beyond MaxTap at the beginning, at the end or between.
func noTaps() [][]int {
	lists := [][]int{make([]int, maxPoints+1), make([]int, maxPoints+2), make([]int, 512), make([]int, 5000)}
	for _, bad := range []int{maxTap + 1, -maxTap - 1, maxTap + 2, 1 << 32, math.MaxInt, math.MinInt, math.MinInt + 1} {
		lists = append(lists, []int{bad}, []int{bad, 0, 0}, []int{0, bad, 0}, []int{0, 0, bad}, append(make([]int, maxPoints-1), bad))
	}
	return lists
}

func TestResidueConvolveByHand(t *testing.T) {
	const square = maxTap * maxTap
	for _, c := range []struct{ a, b, want []int }{
		{nil, nil, nil}, {[]int{}, []int{1}, nil}, {[]int{1, 2, 3}, nil, nil}, {[]int{}, make([]int, maxPoints), nil}, {slices.Repeat([]int{maxTap}, maxPoints), nil, nil},
		{[]int{3}, []int{-5}, []int{-15}}, {[]int{0}, []int{0}, []int{0}}, {[]int{1, 2}, []int{3, 4, 5}, []int{3, 10, 13, 10}}, {[]int{1, -1}, []int{1, 1}, []int{1, 0, -1}}, {[]int{0, 1}, []int{7, 8, 9}, []int{0, 7, 8, 9}}, {[]int{2}, []int{1, 2, 3}, []int{2, 4, 6}},
		{[]int{maxTap}, []int{maxTap}, []int{square}}, {[]int{maxTap}, []int{-maxTap}, []int{-square}}, {[]int{-maxTap, maxTap}, []int{-maxTap, -maxTap}, []int{square, 0, -square}},
	} {
		got, ok := impl.Convolve(c.a, c.b)
		holdSignal(t, "Convolve", got, ok, c.want)
		got, ok = impl.Convolve(c.b, c.a)
		holdSignal(t, "Convolve turned around", got, ok, c.want)
	}
	for _, sign := range []int{1, -1} {
		got, ok := impl.Convolve(slices.Repeat([]int{maxTap}, maxPoints), slices.Repeat([]int{sign * maxTap}, maxPoints))
		want := []int{}
		for k := 0; k <= 2*maxPoints-2; k++ {
			want = append(want, sign*square*min(k+1, 2*maxPoints-1-k))
		}
		holdSignal(t, "Convolve of the greatest", got, ok, want)
	}
}

func TestResidueConvolve(t *testing.T) {
	g := formSource(621)
	for _, n := range []int{0, 1, 2, 3, 7, 8, 50, 255, 256} {
		for _, m := range []int{0, 1, 2, 5, 8, 63, 256} {
			for _, most := range []int{1, 1000, maxTap} {
				a, b := g.signal(most, n), g.signal(most, m)
				want := convolveSlow(a, b)
				got, ok := impl.Convolve(a, b)
				holdSignal(t, "Convolve", got, ok, want)
				got, ok = impl.Convolve(b, a)
				holdSignal(t, "Convolve turned around", got, ok, want)
			}
		}
	}
}

// A list that is refused is so whichever stands first, and whatever the other one is.
func TestResidueConvolveThatIsNone(t *testing.T) {
	others := append([][]int{nil, {}, {0}, {1}, {1, 2, 3}, make([]int, maxPoints)}, noTaps()[:6]...)
	for _, bad := range noTaps() {
		for _, other := range others {
			got, ok := impl.Convolve(bad, other)
			noSignal(t, "Convolve", got, ok)
			got, ok = impl.Convolve(other, bad)
			noSignal(t, "Convolve", got, ok)
			for _, size := range []int{1, 2, maxPoints, 0} {
				got, ok = impl.Blocks(bad, other, size)
				noSignal(t, "Blocks", got, ok)
				got, ok = impl.Blocks(other, bad, size)
				noSignal(t, "Blocks", got, ok)
			}
			got, ok = impl.Around(bad, other)
			noSignal(t, "Around", got, ok)
			got, ok = impl.Around(other, bad)
			noSignal(t, "Around", got, ok)
		}
		got, ok := impl.Around(bad, bad)
		noSignal(t, "Around", got, ok)
		for _, other := range [][]int{make([]int, len(bad)), slices.Repeat([]int{1}, len(bad))} {
			got, ok = impl.Around(bad, other)
			noSignal(t, "Around of as long a list", got, ok)
			got, ok = impl.Around(other, bad)
			noSignal(t, "Around of as long a list", got, ok)
		}
	}
}

// Among the residues of each prime a convolution is the product of the transforms, place by place, and the three together tell its numbers.
func TestResidueConvolutionsAreProducts(t *testing.T) {
	g := formSource(622)
	for _, c := range [][2]int{{1, 1}, {2, 3}, {5, 12}, {30, 35}, {100, 157}, {1, 256}, {128, 129}, {256, 1}} {
		a, b := g.signal(maxTap, c[0]), g.signal(maxTap, c[1])
		n := 1
		for n < len(a)+len(b)-1 {
			n *= 2
		}
		var parts [3][]int
		for at, p := range primes {
			fa, fb := listOf(impl.Dft(residuesOf(a, n, p), p, false)), listOf(impl.Dft(residuesOf(b, n, p), p, false))
			parts[at] = listOf(impl.Dft(productsOf(fa, fb, p), p, true))
		}
		want := []int{}
		for k := range len(a) + len(b) - 1 {
			want = append(want, impl.Together(parts[0][k], parts[1][k], parts[2][k]))
		}
		got, ok := impl.Convolve(a, b)
		holdSignal(t, "Convolve against products of transforms", got, ok, want)
	}
}

// residuesOf has noughts behind the list, up to n of them all.
func residuesOf(list []int, n int, p int) []int {
	answer := make([]int, n)
	for at, x := range list {
		answer[at] = modOf(x, p)
	}
	return answer
}

func productsOf(a, b []int, p int) []int {
	answer := []int{}
	for at := range a {
		answer = append(answer, mulMod(a[at], b[at], p))
	}
	return answer
}

func TestResidueAroundByHand(t *testing.T) {
	const square = maxTap * maxTap
	for _, c := range []struct{ a, b, want []int }{
		{[]int{3}, []int{-5}, []int{-15}}, {[]int{maxTap}, []int{maxTap}, []int{square}}, {[]int{1, 2}, []int{3, 4}, []int{11, 10}}, {[]int{1, 2, 0}, []int{3, 4, 5}, []int{13, 10, 13}}, {[]int{0, 1, 0, 0}, []int{6, 7, 8, 9}, []int{9, 6, 7, 8}}, {[]int{0, 0, 0}, []int{1, 2, 3}, []int{0, 0, 0}},
		{slices.Repeat([]int{maxTap}, maxPoints), slices.Repeat([]int{-maxTap}, maxPoints), slices.Repeat([]int{-maxPoints * square}, maxPoints)},
		{slices.Repeat([]int{-maxTap}, maxPoints), slices.Repeat([]int{-maxTap}, maxPoints), slices.Repeat([]int{maxPoints * square}, maxPoints)},
	} {
		got, ok := impl.Around(c.a, c.b)
		holdSignal(t, "Around", got, ok, c.want)
		got, ok = impl.Around(c.b, c.a)
		holdSignal(t, "Around turned around", got, ok, c.want)
	}
}

func TestResidueAround(t *testing.T) {
	g := formSource(623)
	for _, n := range []int{1, 2, 3, 4, 5, 7, 8, 12, 31, 100, 255, 256} {
		for _, most := range []int{1, 1000, maxTap} {
			a, b := g.signal(most, n), g.signal(most, n)
			got, ok := impl.Around(a, b)
			holdSignal(t, "Around", got, ok, aroundSlow(a, b))
		}
	}
	for _, n := range wholes {
		a, b := g.signal(maxTap, n), g.signal(maxTap, n)
		sums := listOf(impl.Around(a, b))
		for _, p := range primes {
			fa, fb := listOf(impl.Dft(residuesOf(a, n, p), p, false)), listOf(impl.Dft(residuesOf(b, n, p), p, false))
			got, ok := impl.Dft(residuesOf(sums, n, p), p, false)
			holdSignal(t, "Dft of Around", got, ok, productsOf(fa, fb, p))
		}
	}
}

func TestResidueAroundThatIsNone(t *testing.T) {
	for _, c := range [][2][]int{
		{nil, nil}, {{}, {}}, {{}, {1}}, {{1}, nil}, {{1, 2}, {1}}, {{1}, {1, 2}}, {{1, 2, 3}, {1, 2}}, {make([]int, maxPoints), make([]int, maxPoints-1)}, {make([]int, maxPoints-1), make([]int, maxPoints)},
		{make([]int, maxPoints+1), make([]int, maxPoints+1)}, {make([]int, maxPoints), make([]int, maxPoints+1)}, {make([]int, 512), make([]int, 512)},
	} {
		got, ok := impl.Around(c[0], c[1])
		noSignal(t, "Around", got, ok)
	}
}

func TestResidueBlocks(t *testing.T) {
	got, ok := impl.Blocks([]int{1, 2}, []int{3, 4, 5}, 2)
	holdSignal(t, "Blocks", got, ok, []int{3, 10, 13, 10})
	g := formSource(624)
	for _, n := range []int{0, 1, 2, 3, 10, 255, 256} {
		for _, m := range []int{0, 1, 2, 3, 4, 17, 100, 255, 256} {
			taps, list := g.signal(maxTap, n), g.signal(maxTap, m)
			want := convolveSlow(taps, list)
			for _, size := range []int{1, 2, 3, 5, 16, 17, max(1, m-1), max(1, m), min(m+1, maxPoints), maxPoints - 1, maxPoints} {
				got, ok := impl.Blocks(taps, list, size)
				holdSignal(t, "Blocks", got, ok, want)
			}
		}
	}
}

func TestResidueBlocksOfEachSize(t *testing.T) {
	g := formSource(625)
	taps, list := g.signal(maxTap, 9), g.signal(maxTap, 40)
	want, _ := impl.Convolve(taps, list)
	for size := 1; size <= maxPoints; size++ {
		got, ok := impl.Blocks(taps, list, size)
		holdSignal(t, "Blocks", got, ok, want)
	}
}

func TestResidueBlocksThatAreNone(t *testing.T) {
	for _, size := range []int{0, -1, -2, maxPoints + 1, maxPoints + 2, 512, 1 << 32, 1<<32 + 1, math.MaxInt, math.MinInt} {
		for _, c := range [][2][]int{{nil, nil}, {{1}, nil}, {nil, {1}}, {{1}, {2}}, {{1, 2}, {3, 4, 5}}, {make([]int, maxPoints), make([]int, maxPoints)}} {
			got, ok := impl.Blocks(c[0], c[1], size)
			noSignal(t, "Blocks of no size", got, ok)
		}
	}
}
