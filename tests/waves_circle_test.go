package tests

import (
	"math"
	"testing"

	"loop.example/g00043/impl"
)

func circleHolds(t *testing.T, step int) {
	t.Helper()
	holdBig(t, "Cosine", impl.Cosine(step), cosineBig(bigOf(step)), step)
	holdBig(t, "Sine", impl.Sine(step), sineBig(bigOf(step)), step)
}

func TestWaveConstants(t *testing.T) {
	if impl.One != 1<<30 || impl.Around256 != 256 {
		t.Error("One or Around256 is another one")
	}
	for at, kind := range windowKinds {
		holdInt(t, "the kind", kind, at+1, at)
	}
}

// The rule alone would have -236 at 64, and true cosines are greater by up to 230.
func TestWaveTableByHand(t *testing.T) {
	for _, c := range []struct{ step, want int }{
		{0, one}, {1, 1073418433}, {2, 1072448455}, {3, 1070832474}, {4, 1068571463}, {5, 1065666784}, {16, 992008064}, {31, 777654293}, {32, 759250030}, {33, 740388423}, {48, 410903051}, {61, 78989129}, {62, 52685789}, {63, 26350713}, {64, 0},
	} {
		holdInt(t, "Cosine", impl.Cosine(c.step), c.want, c.step)
		holdInt(t, "Sine", impl.Sine(64-c.step), c.want, 64-c.step)
	}
	sum, weighed := 0, 0
	for step := range 65 {
		sum += impl.Cosine(step)
		weighed += step * impl.Cosine(step)
	}
	holdInt(t, "the sum", sum, 44282846253, "the table")
	holdInt(t, "the sum, each step times,", weighed, 1017191944080, "the table")
}

func TestWaveSeams(t *testing.T) {
	const c1, c63 = 1073418433, 26350713
	for _, c := range []struct{ step, cosine, sine int }{
		{0, one, 0}, {1, c1, c63}, {63, c63, c1}, {64, 0, one}, {65, -c63, c1}, {127, -c1, c63}, {128, -one, 0}, {129, -c1, -c63}, {191, -c63, -c1}, {192, 0, -one}, {193, c63, -c1}, {255, c1, -c63}, {256, one, 0},
		{257, c1, c63}, {-1, c1, -c63}, {-63, c63, -c1}, {-64, 0, -one}, {-65, -c63, -c1}, {-127, -c1, -c63}, {-128, -one, 0}, {-129, -c1, c63}, {-192, 0, one}, {-255, c1, c63}, {-256, one, 0}, {-257, c1, -c63},
		{math.MaxInt, c1, -c63}, {math.MaxInt - 1, impl.Cosine(2), -impl.Cosine(62)}, {math.MaxInt - 63, 0, -one}, {math.MaxInt - 255, one, 0},
		{math.MinInt, one, 0}, {math.MinInt + 1, c1, c63}, {math.MinInt + 63, c63, c1}, {math.MinInt + 64, 0, one}, {math.MinInt + 65, -c63, c1}, {math.MinInt + 128, -one, 0}, {math.MinInt + 255, c1, -c63},
	} {
		holdInt(t, "Cosine", impl.Cosine(c.step), c.cosine, c.step)
		holdInt(t, "Sine", impl.Sine(c.step), c.sine, c.step)
	}
}

func TestWaveEachStep(t *testing.T) {
	for step := range 256 {
		for _, from := range []int{0, 256, 512, -256, -512, 1 << 20, 1 << 32, -1 << 32, math.MinInt, math.MaxInt - 255} {
			circleHolds(t, from+step)
		}
	}
	g := formSource(701)
	for range 5000 {
		circleHolds(t, int(g.next()))
		circleHolds(t, g.ofAnySize(impl.MaxBig))
	}
}

func TestWavesAreEvenAndOddAndTurn(t *testing.T) {
	for step := -600; step <= 600; step++ {
		cosine, sine := impl.Cosine(step), impl.Sine(step)
		holdInt(t, "Cosine the other way", impl.Cosine(-step), cosine, step)
		holdInt(t, "Sine the other way", impl.Sine(-step), -sine, step)
		holdInt(t, "Cosine a circle on", impl.Cosine(step+256), cosine, step)
		holdInt(t, "Sine a circle on", impl.Sine(step+256), sine, step)
		holdInt(t, "Cosine half a circle on", impl.Cosine(step+128), -cosine, step)
		holdInt(t, "Sine half a circle on", impl.Sine(step+128), -sine, step)
		holdInt(t, "Sine a quarter on", impl.Sine(step+64), cosine, step)
		holdInt(t, "Sine against the half", impl.Sine(128-step), sine, step)
		if cosine < -one || cosine > one || sine < -one || sine > one {
			t.Errorf("at %d the waves are %d %d", step, cosine, sine)
		}
	}
	for step := range 128 {
		if impl.Cosine(step) <= impl.Cosine(step+1) {
			t.Errorf("Cosine does not fall behind %d", step)
		}
	}
}

func TestWavesSumToNothing(t *testing.T) {
	for _, start := range []int{0, 1, 63, 64, 100, 255, -1, -1000, 1 << 40, math.MinInt, math.MaxInt - 255} {
		for _, stride := range []int{1, 3, 85, 255} {
			cosines, sines := 0, 0
			for i := range 256 {
				// What is past the greatest int comes out at the least one, as many circles off.
				cosines += impl.Cosine(start + i*stride)
				sines += impl.Sine(start + i*stride)
			}
			holdInt(t, "a whole turn of Cosine", cosines, 0, start, stride)
			holdInt(t, "a whole turn of Sine", sines, 0, start, stride)
		}
	}
}

func TestWaveTurnsByHand(t *testing.T) {
	const c1, c63 = 1073418433, 26350713
	for _, step := range []int{0, 256, -256, math.MinInt} {
		for _, p := range [][2]int{{100, 0}, {3, -5}, {maxSample, maxSample}, {maxSample, -maxSample}, {-maxSample, 7}, {0, 0}} {
			holdPoint(t, p[0], p[1], step, p[0], p[1])
			holdPoint(t, p[0], p[1], step+64, -p[1], p[0])
			holdPoint(t, p[0], p[1], step+128, -p[0], -p[1])
			holdPoint(t, p[0], p[1], step+192, p[1], -p[0])
		}
	}
	for _, c := range []struct{ x, y, step, wantX, wantY int }{
		{1 << 29, 0, 1, (c1 + 1) / 2, (c63 + 1) / 2}, {-1 << 29, 0, 1, -(c1 - 1) / 2, -(c63 - 1) / 2}, {0, 1 << 29, 1, -(c63 - 1) / 2, (c1 + 1) / 2}, {0, -1 << 29, 1, (c63 + 1) / 2, -(c1 - 1) / 2},
		{1 << 29, 0, -1, (c1 + 1) / 2, -(c63 - 1) / 2}, {1, 0, 32, 1, 1}, {1, 1, 32, 0, 1}, {1, -1, 32, 1, 0}, {-1, -1, 32, 0, -1}, {10, 0, 32, 7, 7}, {10, 0, 96, -7, 7}, {10, 0, 160, -7, -7}, {10, 0, 224, 7, -7}, {100, 0, 16, 92, 38}, {100, 0, 48, 38, 92},
		{maxSample, maxSample, 224, 1414213385, 0}, {maxSample, -maxSample, 32, 1414213385, 0}, {maxSample, maxSample, 32, 0, 1414213385}, {-maxSample, -maxSample, 32, 0, -1414213385}, {100, 0, math.MaxInt, 100, -2}, {100, 0, math.MinInt, 100, 0},
	} {
		holdPoint(t, c.x, c.y, c.step, c.wantX, c.wantY)
	}
}

func turnHolds(t *testing.T, x, y, step int) {
	t.Helper()
	wantX, wantY := turnBig(x, y, step)
	holdPoint(t, x, y, step, wantX, wantY)
}

func TestWaveTurns(t *testing.T) {
	g := formSource(702)
	for step := -256; step <= 512; step++ {
		for _, p := range [][2]int{{maxSample, 0}, {0, maxSample}, {maxSample, maxSample}, {-maxSample, maxSample}, {-maxSample, -maxSample}, {1, 0}, {1, -1}, {1 << 29, 1 << 29}, {1 << 29, -1 << 28}} {
			turnHolds(t, p[0], p[1], step)
		}
		for range 8 {
			turnHolds(t, g.ofAnySize(maxSample), g.ofAnySize(maxSample), step)
			turnHolds(t, g.within(maxSample), g.within(maxSample), int(g.next()))
		}
	}
}

// Both waves' squares together are One's square but for less than 4 parts in ten millions, since the table's rule is rounded; each turn rounds by at most a half.
func TestWaveTurnsThereAndBack(t *testing.T) {
	g := formSource(703)
	for step := -300; step <= 300; step++ {
		for _, most := range []int{1, 1000, 1000000, maxSample / 2} {
			x, y := g.within(most), g.within(most)
			awayX, awayY := impl.Turn(x, y, step)
			backX, backY := impl.Turn(awayX, awayY, -step)
			room := 2 + most*4/10000000
			if max(backX-x, x-backX, backY-y, y-backY) > room {
				t.Errorf("%d %d turned by %d and back is %d %d", x, y, step, backX, backY)
			}
			if step%64 == 0 && (backX != x || backY != y) {
				t.Errorf("%d %d turned by quarters, %d, and back is %d %d", x, y, step, backX, backY)
			}
		}
	}
}

func TestWaveTurnsThatAreNone(t *testing.T) {
	for _, bad := range []int{maxSample + 1, -maxSample - 1, 1 << 32, -1 << 32, math.MaxInt, math.MinInt, math.MinInt + 1} {
		for _, step := range []int{0, 1, 32, 64, 128, 192, -1, math.MaxInt, math.MinInt} {
			for _, good := range []int{0, 5, maxSample, -maxSample} {
				holdPoint(t, bad, good, step, 0, 0)
				holdPoint(t, good, bad, step, 0, 0)
			}
			holdPoint(t, bad, bad, step, 0, 0)
		}
	}
}
