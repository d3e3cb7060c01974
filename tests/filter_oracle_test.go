package tests

import (
	"math"
	"math/big"
	"slices"
	"testing"

	"loop.example/g00043/impl"
)

// The oracle of the filters: each number told is worked out from the samples by itself, in numbers without an end; only what hears itself goes step by step.

const (
	maxTaps   = impl.MaxTaps
	maxStages = impl.MaxStages
	maxNarrow = 32767
	maxFactor = 65536
)

// beyond gives numbers past both ends of -most .. most, by one and by far, some of which would be within by their lower bits or their size.
func beyond(most int) []int {
	return []int{most + 1, -most - 1, most + 2, -most - 2, 2*most + 1, 1 << 32, 1<<32 + 1, -1 << 32, 1 << 62, math.MaxInt, math.MinInt, math.MinInt + 1}
}

func sumOfProducts(a, b []int) *big.Int {
	sum := new(big.Int)
	for at := range a {
		sum.Add(sum, new(big.Int).Mul(bigOf(a[at]), bigOf(b[at])))
	}
	return sum
}

func backwards(list []int) []int {
	turned := slices.Clone(list)
	slices.Reverse(turned)
	return turned
}

// firSlow lays the state ahead of the list, the oldest first, and reads each piece backwards.
func firSlow(taps, state, list []int) ([]int, []int) {
	all := append(backwards(state), list...)
	told := []int{}
	for at := range list {
		told = append(told, int(sumOfProducts(taps, backwards(all[at:at+len(taps)])).Int64()))
	}
	return told, backwards(all)[:len(state)]
}

func sampleAt(list []int, at int) int {
	if at < 0 || at >= len(list) {
		return 0
	}
	return list[at]
}

func combSlow(list []int, back int) []int {
	told := []int{}
	for at := range list {
		told = append(told, int(sumBig(list[at], -sampleAt(list, at-back)).Int64()))
	}
	return told
}

func gatherSlow(list []int, back int) []int {
	told := []int{}
	for at := range list {
		told = append(told, int(sumBig(list[max(0, at+1-back):at+1]...).Int64()))
	}
	return told
}

func thinned(list []int, rate int) []int {
	left := []int{}
	for at, x := range list {
		if at%rate == rate-1 {
			left = append(left, x)
		}
	}
	return left
}

// cicSlow convolves the rows of ones first, so that it gathers no sums.
func cicSlow(list []int, rate int, stages int) []int {
	ones := []int{1}
	for range stages {
		ones = convolveSlow(ones, slices.Repeat([]int{1}, rate))
	}
	all := convolveSlow(ones, list)
	return thinned(all[:len(list)], rate)
}

func toEnds(x int) int {
	if x > maxTap {
		return maxTap
	}
	if x < -maxTap {
		return -maxTap
	}
	return x
}

// iirSlow keeps all that came in and all that was told, the Past ahead.
func iirSlow(s impl.Section, p impl.Past, list []int) ([]int, impl.Past) {
	in, out, left := append([]int{p.X2, p.X1}, list...), []int{p.Y2, p.Y1}, bigOf(p.E)
	factors := []int{s.B0, s.B1, s.B2, -s.A1, -s.A2}
	for at := range list {
		t := sumOfProducts(factors, []int{in[at+2], in[at+1], in[at], out[at+1], out[at]})
		t.Add(t, left)
		quotient := lowerOf(t, bigOf(16384))
		left = new(big.Int).Sub(t, new(big.Int).Mul(quotient, bigOf(16384)))
		out = append(out, toEnds(int(quotient.Int64())))
	}
	n := len(list)
	return out[2:], impl.Past{X1: in[n+1], X2: in[n], Y1: out[n+1], Y2: out[n], E: int(left.Int64())}
}

func chainSlow(list []impl.Section, signal []int) []int {
	for _, s := range list {
		signal, _ = iirSlow(s, impl.Past{}, signal)
	}
	return signal
}

// adaptSlow keeps no samples: it looks for them in the list, where there are noughts ahead.
func adaptSlow(taps, by int, list, want []int) ([]int, []int) {
	errors, weights := []int{}, make([]int, taps)
	for at := range list {
		samples := []int{}
		for back := range taps {
			samples = append(samples, sampleAt(list, at-back))
		}
		y := lowerOf(sumOfProducts(weights, samples), bigOf(16384))
		e := new(big.Int).Sub(bigOf(want[at]), y)
		for k, sample := range samples {
			more := lowerOf(new(big.Int).Mul(e, bigOf(sample)), stepOf(by))
			weights[k] = toEnds(int(more.Add(more, bigOf(weights[k])).Int64()))
		}
		errors = append(errors, int(e.Int64()))
	}
	return errors, weights
}

// middleOf sorts nothing: it looks for the one with no more than half of the others below it, and no more than half above.
func middleOf(list []int) int {
	for _, x := range list {
		below, above := 0, 0
		for _, other := range list {
			if other < x {
				below++
			}
			if other > x {
				above++
			}
		}
		if 2*below < len(list) && 2*above < len(list) {
			return x
		}
	}
	return math.MinInt
}

func middleSlow(list []int, size int) []int {
	told := []int{}
	for at := range list {
		around := []int{}
		for place := at - size/2; place <= at+size/2; place++ {
			switch {
			case place < 0:
				around = append(around, list[0])
			case place >= len(list):
				around = append(around, list[len(list)-1])
			default:
				around = append(around, list[place])
			}
		}
		told = append(told, middleOf(around))
	}
	return told
}

func (g *formSource) section() impl.Section {
	n := g.atEnds(maxFactor, 5)
	return impl.Section{B0: n[0], B1: n[1], B2: n[2], A1: n[3], A2: n[4]}
}

// calmSection gives sections whose numbers die away, so that the ends are seldom met.
func (g *formSource) calmSection() impl.Section {
	n := g.signal(8000, 5)
	return impl.Section{B0: 2 * n[0], B1: 2 * n[1], B2: n[2], A1: n[3], A2: n[4]}
}

func (g *formSource) past(most int) impl.Past {
	n := g.atEnds(most, 4)
	return impl.Past{X1: n[0], X2: n[1], Y1: n[2], Y2: n[3], E: int(g.next() % 16384)}
}

func holdPast(t *testing.T, what string, got []int, past impl.Past, ok bool, want []int, wantPast impl.Past) {
	t.Helper()
	if !ok || !slices.Equal(got, want) || past != wantPast {
		t.Errorf("%s is %v and %v, %v, not %v and %v", what, got, past, ok, want, wantPast)
	}
}

func noPast(t *testing.T, what string, got []int, past impl.Past, ok bool) {
	t.Helper()
	if ok || len(got) != 0 || past != (impl.Past{}) {
		t.Errorf("%s is not refused: %v and %v, %v", what, got, past, ok)
	}
}
