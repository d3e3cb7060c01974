package tests

import (
	"math"
	"math/big"
	"slices"
	"testing"

	"loop.example/g00043/impl"
)

func toneHolds(t *testing.T, step, phase, size, n int) {
	t.Helper()
	tone, ok := impl.Tone(step, phase, size, n)
	holdSignal(t, "Tone", tone, ok, toneBig(step, phase, size, n))
	if len(tone) != n || !impl.SignalOk(tone) {
		t.Errorf("Tone of %d %d %d %d has %d numbers, or such as are no samples", step, phase, size, n, len(tone))
	}
}

func TestWaveTonesByHand(t *testing.T) {
	const c1, half = 1073418433, 1 << 29
	for _, c := range []struct {
		step, phase, size, n int
		want                 []int
	}{
		{64, 0, 10, 5, []int{10, 0, -10, 0, 10}}, {-64, 0, 10, 5, []int{10, 0, -10, 0, 10}}, {64, 64, 10, 4, []int{0, -10, 0, 10}}, {-64, 64, 10, 4, []int{0, 10, 0, -10}}, {64, -64, 10, 4, []int{0, 10, 0, -10}},
		{0, 0, 7, 3, []int{7, 7, 7}}, {0, 128, 7, 3, []int{-7, -7, -7}}, {128, 0, 9, 4, []int{9, -9, 9, -9}}, {256, 0, 9, 2, []int{9, 9}}, {32, 0, 10, 8, []int{10, 7, 0, -7, -10, -7, 0, 7}}, {32, 0, 1, 8, []int{1, 1, 0, -1, -1, -1, 0, 1}},
		{0, 0, 0, 3, []int{0, 0, 0}}, {5, 9, 3, 0, []int{}}, {64, 0, maxSample, 4, []int{maxSample, 0, -maxSample, 0}}, {1, 0, maxSample, 1, []int{maxSample}},
		{126, 1, half, 2, []int{(c1 + 1) / 2, -(c1 - 1) / 2}}, {1, 1, one / 2, 1, []int{(c1 + 1) / 2}}, {1, 127, half, 1, []int{-(c1 - 1) / 2}},
		{maxSample, -maxSample, 5, 3, []int{5, 5, 5}}, {maxSample, 64, 5, 2, []int{0, 0}}, {-maxSample, maxSample, 5, 2, []int{5, 5}},
	} {
		tone, ok := impl.Tone(c.step, c.phase, c.size, c.n)
		holdSignal(t, "Tone", tone, ok, c.want)
	}
}

func TestWaveTonesAtTheLimits(t *testing.T) {
	for _, n := range []int{0, 1, 2, maxSignal - 1, maxSignal} {
		for _, size := range []int{0, 1, 1000, maxSample - 1, maxSample} {
			for _, step := range []int{0, 1, -1, 63, 127, 129, maxSample, -maxSample, maxSample - 1, 1 - maxSample} {
				for _, phase := range []int{0, 17, maxSample, -maxSample, maxSample - 1, 1 - maxSample} {
					toneHolds(t, step, phase, size, n)
				}
			}
		}
	}
}

func TestWaveTones(t *testing.T) {
	g := formSource(711)
	for range 400 {
		size := g.ofAnySize(maxSample)
		toneHolds(t, g.ofAnySize(maxSample), g.ofAnySize(maxSample), max(size, -size), int(g.next()%100))
	}
}

func TestWaveTonesThatAreNone(t *testing.T) {
	refused := func(step, phase, size, n int) {
		t.Helper()
		tone, ok := impl.Tone(step, phase, size, n)
		noSignal(t, "Tone", tone, ok)
	}
	for _, n := range []int{-1, -2, maxSignal + 1, maxSignal + 2, -maxSignal, 1 << 32, 1<<32 + 3, math.MaxInt, math.MinInt} {
		refused(3, 5, 10, n)
		refused(maxSample+1, 5, -1, n)
	}
	for _, n := range []int{0, 1, 3, maxSignal} {
		for _, size := range []int{-1, -2, maxSample + 1, -maxSample, 1 << 32, math.MaxInt, math.MinInt} {
			refused(3, 5, size, n)
		}
		for _, bad := range noSteps {
			refused(bad, 5, 10, n)
			refused(3, bad, 10, n)
			refused(bad, bad, 0, n)
		}
	}
}

func TestWaveBinsByHand(t *testing.T) {
	for _, c := range []struct {
		list       []int
		step, x, y int
	}{
		{nil, 0, 0, 0}, {[]int{}, 64, 0, 0}, {[]int{7}, 0, 7, 0}, {[]int{-7}, 99, -7, 0}, {[]int{maxTap}, -5, maxTap, 0}, {[]int{-maxTap}, maxSample, -maxTap, 0},
		{[]int{10, 0, -10, 0}, 64, 20, 0}, {[]int{10, 0, -10, 0}, -64, 20, 0}, {[]int{0, 10, 0, -10}, 64, 0, 20}, {[]int{0, 10, 0, -10}, -64, 0, -20}, {[]int{0, 10, 0, -10}, 192, 0, -20}, {[]int{0, 10, 0, -10}, 320, 0, 20},
		{[]int{1, 2, 3}, 0, 6, 0}, {[]int{1, 2, 3}, 128, 2, 0}, {[]int{1, 2, 3}, 64, -2, 2}, {[]int{1, 2, 3}, 256, 6, 0}, {[]int{0, 10}, 32, 7, 7}, {[]int{0, -10}, 32, -7, -7}, {[]int{0, 10}, 96, -7, 7}, {[]int{0, 1}, 32, 1, 1}, {[]int{0, 1, 1}, 32, 1, 2}, {[]int{0, 1, 0, 1}, 32, 0, 1},
		{slices.Repeat([]int{maxTap}, maxSignal), 0, maxTap * maxSignal, 0}, {slices.Repeat([]int{-maxTap}, maxSignal), 256, -maxTap * maxSignal, 0}, {slices.Repeat([]int{maxTap, -maxTap}, maxSignal/2), 128, maxTap * maxSignal, 0}, {slices.Repeat([]int{0, maxTap, 0, -maxTap}, maxSignal/4), 64, 0, maxTap * maxSignal / 2},
	} {
		if x, y, ok := impl.Bin(c.list, c.step); !ok || x != c.x || y != c.y {
			t.Errorf("Bin of %d samples, %v.., at %d is %d %d %v, not %d %d", len(c.list), c.list[:min(4, len(c.list))], c.step, x, y, ok, c.x, c.y)
		}
	}
}

func TestWaveBins(t *testing.T) {
	g := formSource(712)
	steps := []int{0, 1, 31, 64, 127, 128, 129, 255, 256, 257, -1, -64, -200, maxSample, -maxSample, maxSample - 1, 1 - maxSample}
	for _, n := range []int{0, 1, 2, 3, 50, maxSignal - 1, maxSignal} {
		for _, most := range []int{1, 1000, maxTap} {
			list := g.signal(most, n)
			for _, step := range steps {
				binHolds(t, list, step)
			}
			binHolds(t, list, g.within(maxSample))
		}
		for _, x := range []int{maxTap, -maxTap} {
			for _, step := range steps {
				binHolds(t, slices.Repeat([]int{x}, n), step)
			}
		}
	}
}

// Two samples are sought whose sum is just at a half, and of both its neighbours the greater one is asked for, above 0 and below it.
func TestWaveBinsAtTheHalf(t *testing.T) {
	found := 0
	for step := 1; step < 32; step++ {
		first, second := impl.Cosine(step), impl.Cosine(2*step)
		inverse := new(big.Int).ModInverse(bigOf(second), bigOf(one))
		if inverse == nil {
			continue
		}
		for a := 1; a <= 4000; a++ {
			missing := timesBig(one/2-a*first, inverse)
			b := int(missing.Mod(missing, bigOf(one)).Int64())
			if b > maxTap {
				continue
			}
			found++
			sum := a*first + b*second
			for _, sign := range []int{1, -1} {
				list := []int{0, sign * a, sign * b}
				binHolds(t, list, step)
				x, _, _ := impl.Bin(list, step)
				holdInt(t, "Bin at the half", x, (sign*sum+one/2)/one, list, step)
			}
		}
	}
	if found < 10 {
		t.Errorf("only %d sums are at a half", found)
	}
}

func TestWaveBinsThatAreNone(t *testing.T) {
	for _, list := range noSignals() {
		noBin(t, "no signal", list, 0)
		noBin(t, "no signal", list, 64)
		noBin(t, "no signal", list, maxSample+1)
	}
	for _, bad := range []int{maxTap + 1, -maxTap - 1, maxTap + 2, maxSample, -maxSample, 1 << 32, math.MaxInt, math.MinInt} {
		for _, list := range [][]int{{bad}, {bad, 0, 0}, {0, bad, 0}, {0, 0, bad}, append(make([]int, maxSignal-1), bad)} {
			noBin(t, "a sample beyond", list, 0)
			noBin(t, "a sample beyond", list, -3)
		}
	}
	for _, step := range noSteps {
		for _, list := range [][]int{nil, {5}, {1, 2, 3}, slices.Repeat([]int{maxTap}, maxSignal)} {
			noBin(t, "a list", list, step)
		}
	}
}

// Rounded numbers are squared: of 1000, -1000 the step 127 has 2000 and -25, which is more than the 2000 and 0 of 128.
func TestWaveLoudestByHand(t *testing.T) {
	for _, c := range []struct {
		list []int
		want int
	}{
		{nil, 0}, {[]int{}, 0}, {[]int{0}, 0}, {make([]int, maxSignal), 0}, {[]int{5}, 0}, {[]int{-maxTap}, 0}, {[]int{3000, 3000, 3000}, 0}, {slices.Repeat([]int{-maxTap}, maxSignal), 0},
		{[]int{maxTap, -maxTap}, 128}, {[]int{1000, -1000}, 127}, {slices.Repeat([]int{maxTap, -maxTap}, maxSignal/2), 128}, {[]int{1000, 0, -1000, 0, 1000, 0, -1000, 0}, 64}, {[]int{0, 1000, 0, -1000, 0, 1000, 0, -1000}, 64},
		{[]int{1000, 0, 1000}, 0}, {[]int{1000, 0, 0, 0, -1000}, 32}, {[]int{1000, 0, -1000}, 64},
	} {
		holdLoudest(t, "the list", c.list, c.want)
	}
}

// From some 200 samples on a tone is loudest at its own step, whatever its phase; of fewer its two ends of the circle blur.
func TestWaveTonesAreHeard(t *testing.T) {
	for step := 1; step < 128; step++ {
		for _, c := range []struct{ phase, size, n int }{
			{0, 1, 256}, {0, 1000, 200}, {17, 1000, 256}, {37, maxTap, 300}, {100, maxTap, maxSignal}, {-200, 2, maxSignal - 1},
		} {
			tone, _ := impl.Tone(step, c.phase, c.size, c.n)
			holdLoudest(t, "a tone", tone, step)
		}
		tone, _ := impl.Tone(-step, 33, 500, 256)
		holdLoudest(t, "a tone that goes back", tone, step)
		tone, _ = impl.Tone(step+256*1000, 33, 500, 256)
		holdLoudest(t, "a tone some circles further", tone, step)
	}
}

// At either end of the steps a tone is one number again and again, perhaps with its sign turned, which the phase can make 0.
func TestWaveTonesAtTheEndsAreHeard(t *testing.T) {
	for _, step := range []int{0, 128} {
		for _, phase := range []int{0, 20, 63, 65, 100, 128, -20} {
			tone, _ := impl.Tone(step, phase, maxTap, 256)
			holdLoudest(t, "a tone", tone, step)
		}
		tone, _ := impl.Tone(step, 64, maxTap, 256)
		holdLoudest(t, "a tone of noughts", tone, 0)
	}
}

// Of two tones the greater one is heard, at either end.
func TestWaveLouderTonesAreHeard(t *testing.T) {
	g := formSource(713)
	for range 60 {
		loud, low := int(g.next()%129), int(g.next()%129)
		great, _ := impl.Tone(loud, 5, 1000, 256)
		small, _ := impl.Tone(low, 9, 300, 256)
		for i := range great {
			great[i] += small[i]
		}
		holdLoudest(t, "two tones", great, loud)
	}
}

// With noughts at all odd places a step and what is missing from it to the half circle are as loud.
func TestWaveLoudestIsTheFirst(t *testing.T) {
	for step := range 129 {
		list, _ := impl.Tone(step, 20, 1000, 256)
		for i := 1; i < len(list); i += 2 {
			list[i] = 0
		}
		x, y, _ := impl.Bin(list, step)
		otherX, otherY, _ := impl.Bin(list, 128-step)
		if x*x+y*y != otherX*otherX+otherY*otherY {
			t.Errorf("%d and %d are not as loud", step, 128-step)
		}
		holdLoudest(t, "a tone with noughts", list, min(step, 128-step))
	}
}

func TestWaveLoudest(t *testing.T) {
	g := formSource(714)
	for _, n := range []int{1, 2, 3, 4, 7, 16, 40} {
		for _, most := range []int{1, 3, 1000, maxTap} {
			for range 3 {
				list := g.signal(most, n)
				holdLoudest(t, "a list", list, loudestBig(list))
			}
		}
	}
	list := g.signal(maxTap, maxSignal)
	holdLoudest(t, "a long list", list, loudestBig(list))
}

// loudestByBin goes by what Bin answers at each step.
func loudestByBin(list []int) int {
	loudest, most := 0, -1
	for step := range 129 {
		if x, y, _ := impl.Bin(list, step); x*x+y*y > most {
			loudest, most = step, x*x+y*y
		}
	}
	return loudest
}

// A single sample is nearly as loud at every step, so that the least difference between the cosines of Loudest and those of Bin is to be seen.
func TestWaveLoudestGoesByBins(t *testing.T) {
	g := formSource(715)
	for at := 0; at < 256; at += 5 {
		list := make([]int, at+1)
		for _, sample := range []int{maxTap, -maxTap, g.within(maxTap)} {
			list[at] = sample
			holdLoudest(t, "a single sample", list, loudestByBin(list))
		}
	}
	for range 20 {
		list := g.signal(maxTap, 1+int(g.next()%100))
		holdLoudest(t, "a list", list, loudestByBin(list))
	}
}

func TestWaveLoudestThatIsNone(t *testing.T) {
	for _, list := range noSignals() {
		noLoudest(t, "no signal", list)
	}
	for _, bad := range []int{maxTap + 1, -maxTap - 1, maxSample, -maxSample, math.MaxInt, math.MinInt} {
		for _, list := range [][]int{{bad}, {1, -1, bad}, append(make([]int, maxSignal-1), bad)} {
			noLoudest(t, "a sample beyond", list)
		}
	}
}
