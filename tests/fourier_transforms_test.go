package tests

import (
	"math"
	"slices"
	"testing"

	"loop.example/g00043/impl"
)

// Promise 10, of Fourier and Fast.

func TestFourierByHand(t *testing.T) {
	inf, nan, minus := math.Inf(1), math.NaN(), math.Copysign(0, -1)
	for _, c := range []struct {
		list, want []impl.Pair
	}{
		{realPairs(7), realPairs(7)},
		{[]impl.Pair{pairOf(3, -5)}, []impl.Pair{pairOf(3, -5)}},
		{realPairs(5, 3), realPairs(8, 2)},
		{[]impl.Pair{pairOf(1, 2), pairOf(3, 5)}, []impl.Pair{pairOf(4, 7), pairOf(-2, -3)}},
		{realPairs(1, 2, 3, 4), []impl.Pair{pairOf(10, 0), pairOf(-2, 2), pairOf(-2, 0), pairOf(-2, -2)}},
		{realPairs(0, 1, 0, 0), []impl.Pair{pairOf(1, 0), pairOf(0, -1), pairOf(-1, 0), pairOf(0, 1)}},
		{[]impl.Pair{{}, pairOf(0, 1), {}, {}}, []impl.Pair{pairOf(0, 1), pairOf(1, 0), pairOf(0, -1), pairOf(-1, 0)}},
		{realPairs(0, 0, 1, 0), realPairs(1, -1, 1, -1)},
	} {
		for _, x := range transforms {
			got, ok := x.call(c.list, false)
			if !ok || !slices.EqualFunc(got, c.want, impl.Equal) {
				t.Errorf("%s of %v is %v %v, not %v", x.name, c.list, got, ok, c.want)
			}
			again, ok := x.call(c.want, true)
			if !ok || !slices.EqualFunc(again, c.list, impl.Equal) {
				t.Errorf("%s of %v, back, is %v %v, not %v", x.name, c.want, again, ok, c.list)
			}
		}
	}
	for _, c := range []struct {
		x          transform
		back       bool
		list, want []impl.Pair
	}{
		{transforms[0], false, []impl.Pair{pairOf(minus, minus)}, []impl.Pair{pairOf(0, 0)}},
		{transforms[1], false, []impl.Pair{pairOf(minus, minus)}, []impl.Pair{pairOf(minus, minus)}},
		{transforms[1], true, []impl.Pair{pairOf(minus, minus)}, []impl.Pair{pairOf(minus, minus)}},
		{transforms[0], false, []impl.Pair{pairOf(inf, 3)}, []impl.Pair{pairOf(inf, nan)}},
		{transforms[1], false, []impl.Pair{pairOf(inf, 3)}, []impl.Pair{pairOf(inf, 3)}},
		{transforms[1], true, []impl.Pair{pairOf(inf, 3)}, []impl.Pair{pairOf(inf, 3)}},
		{transforms[0], false, []impl.Pair{pairOf(inf, 3), pairOf(0, 0)}, []impl.Pair{pairOf(inf, nan), pairOf(inf, nan)}},
		{transforms[1], false, []impl.Pair{pairOf(inf, 3), pairOf(0, 0)}, []impl.Pair{pairOf(inf, 3), pairOf(inf, 3)}},
		{transforms[1], true, []impl.Pair{pairOf(inf, 3), pairOf(0, 0)}, []impl.Pair{pairOf(inf, 1.5), pairOf(inf, 1.5)}},
		{transforms[1], true, []impl.Pair{pairOf(5, -inf), pairOf(0, 0)}, []impl.Pair{pairOf(2.5, -inf), pairOf(2.5, -inf)}},
		{transforms[1], false, []impl.Pair{pairOf(nan, 2), pairOf(0, 0)}, []impl.Pair{pairOf(nan, 2), pairOf(nan, 2)}},
		{transforms[1], false, []impl.Pair{pairOf(minus, minus), pairOf(minus, minus)}, []impl.Pair{pairOf(0, minus), pairOf(minus, 0)}},
	} {
		got, ok := c.x.call(c.list, c.back)
		holdTransform(t, c.x.name+wayName(c.back), got, ok, bitsOfPairs(c.want), c.list)
	}
}

// The orders of the sums are to be seen: 1e16 and 1 are 1e16.
func TestFourierOrdersByHand(t *testing.T) {
	list := realPairs(1e16, 1, -1e16, 1)
	for _, c := range []struct {
		x    transform
		want []impl.Pair
	}{
		{transforms[0], []impl.Pair{pairOf(1, 0), pairOf(2e16, 0), pairOf(-1, 0), pairOf(2e16, 0)}},
		{transforms[1], []impl.Pair{pairOf(2, 0), pairOf(2e16, 0), pairOf(-2, 0), pairOf(2e16, 0)}},
	} {
		got, ok := c.x.call(list, false)
		if !ok || !slices.EqualFunc(got, c.want, impl.Equal) {
			t.Errorf("%s of %v is %v, not %v", c.x.name, list, got, c.want)
		}
	}
}

// Back it is the outcome that is divided, and that once: what is past the greatest number, or below the least, tells it.
func TestFourierIsDividedLast(t *testing.T) {
	least, most := 0x1p-1074, math.MaxFloat64
	for _, x := range transforms {
		for _, c := range []struct{ list, want []impl.Pair }{
			{realPairs(most, most), realPairs(math.Inf(1), 0)},
			{realPairs(least, least), realPairs(least, 0)},
			{realPairs(least, 0), realPairs(0, 0)},
			{realPairs(3*least, 0), realPairs(2*least, 2*least)},
			{realPairs(least, least, least, least), realPairs(least, 0, 0, 0)},
			{realPairs(3*least, 0, 3*least, 0), realPairs(2*least, 0, 2*least, 0)},
			{realPairs(3*least, 0, 0, 0), realPairs(least, least, least, least)},
		} {
			got, ok := x.call(c.list, true)
			if !ok || !slices.EqualFunc(got, c.want, impl.Equal) {
				t.Errorf("%s of %v, back, is %v %v, not %v", x.name, c.list, got, ok, c.want)
			}
		}
	}
}

// One number alone tells the turns that it meets, each in its place and to the bit.
func TestFourierOfOnesAreTurns(t *testing.T) {
	for _, n := range halvedCounts {
		for i := range n {
			list := make([]impl.Pair, n)
			list[i] = pairOf(1, 0)
			for _, x := range transforms {
				x.holds(t, "of a 1", list)
			}
			got, _ := impl.Fourier(list, false)
			for k, p := range got {
				step := -i * k * (256 / n)
				if want := pairOf(float64(impl.Cosine(step))/impl.One, float64(impl.Sine(step))/impl.One); !impl.Equal(p, want) {
					t.Errorf("of %d a 1 at %d is %v at %d, not the turn %v", n, i, p, k, want)
				}
			}
		}
	}
}

func TestFourierOfMany(t *testing.T) {
	g := formSource(801)
	for _, k := range floatKinds {
		for _, n := range halvedCounts {
			for range 1 + 32/n {
				list := k.pairs(&g, n)
				for _, x := range transforms {
					x.holds(t, k.name, list)
				}
			}
		}
	}
}

// A few pairs at the edges among ordinary ones, so that the others are still to be seen.
func TestFourierWithEdges(t *testing.T) {
	g := formSource(802)
	edges := edgePairs()
	for at, edge := range edges {
		n := halvedCounts[at%6]
		list := floatKinds[0].pairs(&g, n)
		list[int(g.next()%uint64(n))] = edge
		for _, x := range transforms {
			x.holds(t, "with an edge", list)
			x.holds(t, "of an edge", []impl.Pair{edge})
			x.holds(t, "of two edges", []impl.Pair{edge, edges[(at*37)%len(edges)]})
		}
	}
}

// sumsTurned adds from the last on.
func sumsTurned(list []pairBits) []pairBits {
	n, turns := len(list), turnsBits(false)
	outcome := []pairBits{}
	for k := range n {
		sum := pairBits{}
		for i, p := range slices.Backward(list) {
			sum = addPairBits(sum, mulPairBits(p, turns[i*k*(256/n)%256]))
		}
		outcome = append(outcome, sum)
	}
	return outcome
}

// In these lists each order comes out otherwise, so that it is to be seen which was taken.
func TestFourierOrdersAreToBeSeen(t *testing.T) {
	g := formSource(803)
	for _, n := range []int{8, 16, 32, 64, 128} {
		for range 4 {
			list := floatKinds[0].pairs(&g, n)
			bits := bitsOfPairs(list)
			fourier, fast := fourierBits(bits, false), fastBits(bits, false)
			if slices.Equal(fourier, fast) || slices.Equal(fourier, sumsTurned(bits)) {
				t.Errorf("%d pairs do not tell the orders apart", n)
			}
			for _, x := range transforms {
				x.holds(t, "near 1", list)
			}
		}
	}
}

// wholeLists have the greatest numbers that the promise speaks of, and many others.
func wholeLists(g *formSource, n int) [][]impl.Pair {
	lists := [][]impl.Pair{smallPairs(g, 1000, n), smallPairs(g, 1000, n), smallPairs(g, 1, n), make([]impl.Pair, n)}
	for _, p := range []impl.Pair{pairOf(1000, 1000), pairOf(-1000, 1000), pairOf(1000, 0), pairOf(0, -1000)} {
		signs := slices.Repeat([]impl.Pair{p}, n)
		lists = append(lists, slices.Clone(signs))
		for i := range signs {
			if g.next()%2 == 0 {
				signs[i] = pairOf(-p.Re, -p.Im)
			}
		}
		lists = append(lists, signs)
	}
	return lists
}

func TestFourierAndFastAreNear(t *testing.T) {
	g := formSource(804)
	for _, n := range halvedCounts {
		for range 40 {
			for _, list := range wholeLists(&g, n) {
				for _, back := range bothWays {
					slow, _ := impl.Fourier(list, back)
					fast, _ := impl.Fast(list, back)
					lessThanOneOff(t, "Fast beside Fourier"+wayName(back), fast, slow)
				}
			}
		}
	}
}

// The loudest outcomes: each list is made for one number of the outcome, in which all of its pairs add up.
func TestFourierAndFastAreNearWhereAllAddsUp(t *testing.T) {
	for _, n := range halvedCounts {
		for k := range n {
			list := []impl.Pair{}
			for i := range n {
				turn := turnBits(i * k * (256 / n))
				re, im := math.Float64frombits(turn.re), math.Float64frombits(turn.im)
				list = append(list, pairOf(math.Copysign(1000, re), math.Copysign(1000, im)))
			}
			slow, _ := impl.Fourier(list, false)
			fast, _ := impl.Fast(list, false)
			lessThanOneOff(t, "Fast beside Fourier", fast, slow)
			if size := slow[k].Re; size < 1000*float64(n) {
				t.Errorf("of %d pairs for %d there is only %v", n, k, slow[k])
			}
		}
	}
}

// Both bring back what the other one made too, and the outcome may be divided on the way out as well.
func TestFourierThereAndBack(t *testing.T) {
	g := formSource(805)
	for _, n := range halvedCounts {
		for range 10 {
			for _, list := range wholeLists(&g, n) {
				for _, there := range transforms {
					for _, again := range transforms {
						away, _ := there.call(list, false)
						home, _ := again.call(away, true)
						lessThanOneOff(t, there.name+" and "+again.name+" back", home, list)
						away, _ = there.call(list, true)
						home, _ = again.call(away, false)
						lessThanOneOff(t, there.name+" back and "+again.name+" there", home, list)
					}
				}
			}
		}
	}
}

func TestFourierOfCountsThatAreNone(t *testing.T) {
	for _, n := range noHalvedCounts {
		for _, p := range pairSamples {
			for _, x := range transforms {
				for _, back := range bothWays {
					got, ok := x.call(slices.Repeat([]impl.Pair{p}, n), back)
					noPairs(t, x.name+wayName(back)+" of a count that is none", got, ok)
				}
			}
		}
	}
	for _, x := range transforms {
		for _, back := range bothWays {
			got, ok := x.call(nil, back)
			noPairs(t, x.name+wayName(back)+" of nil", got, ok)
			room := make([]impl.Pair, 128)
			got, ok = x.call(room[:3], back)
			noPairs(t, x.name+wayName(back)+" of 3 with more behind them", got, ok)
		}
	}
	for n := range 300 {
		_, slow := impl.Fourier(make([]impl.Pair, n), false)
		_, fast := impl.Fast(make([]impl.Pair, n), true)
		if want := slices.Contains(halvedCounts, n); slow != want || fast != want {
			t.Errorf("of %d pairs Fourier says %v and Fast %v", n, slow, fast)
		}
	}
}
