package tests

import (
	"math"
	"slices"
	"testing"

	"loop.example/g00043/impl"
)

var noSamples = append(beyond(maxSample), 1<<31, 1<<32+1, 1-1<<32, math.MaxInt-1, 1<<53+1)

func airHolds(t *testing.T, burst []impl.Point, delay, quarter int, noise []impl.Point) {
	t.Helper()
	got := onAir(t, burst, delay, quarter, noise)
	holdPoints(t, "Air", got, true, airSlow(burst, delay, quarter, noise))
	holdInt(t, "how many Points there are", len(got), delay+len(burst))
}

func noAir(t *testing.T, what string, burst []impl.Point, delay, quarter int, noise []impl.Point) {
	t.Helper()
	got, ok := impl.Air(burst, delay, quarter, noise)
	noPoints(t, "Air of "+what, got, ok)
}

func TestModemAirByHand(t *testing.T) {
	for _, c := range []struct {
		burst          []impl.Point
		delay, quarter int
		noise, want    []impl.Point
	}{
		{nil, 0, 0, nil, nil}, {[]impl.Point{}, 0, 3, []impl.Point{}, nil}, {nil, 2, 1, nil, []impl.Point{{}, {}}}, {nil, 1, 2, []impl.Point{{X: 5, Y: -6}}, []impl.Point{{X: 5, Y: -6}}},
		{[]impl.Point{{X: 3, Y: 1}}, 0, 0, nil, []impl.Point{{X: 3, Y: 1}}}, {[]impl.Point{{X: 3, Y: 1}}, 0, 1, nil, []impl.Point{{X: -1, Y: 3}}}, {[]impl.Point{{X: 3, Y: 1}}, 0, 2, nil, []impl.Point{{X: -3, Y: -1}}}, {[]impl.Point{{X: 3, Y: 1}}, 0, 3, nil, []impl.Point{{X: 1, Y: -3}}},
		{[]impl.Point{{X: 3, Y: 1}}, 1, 1, []impl.Point{{X: 7}}, []impl.Point{{X: 7}, {X: -1, Y: 3}}}, {[]impl.Point{{X: 3, Y: 1}}, 1, 1, []impl.Point{{}, {X: 7, Y: 2}}, []impl.Point{{}, {X: 6, Y: 5}}},
		{[]impl.Point{{X: 4}, {Y: 4}, {X: -4}, {Y: -4}}, 1, 3, []impl.Point{{X: 1}, {X: 1, Y: 2}}, []impl.Point{{X: 1}, {X: 1, Y: -2}, {X: 4}, {Y: 4}, {X: -4}}},
	} {
		got := onAir(t, c.burst, c.delay, c.quarter, c.noise)
		holdPoints(t, "Air by hand", got, true, c.want)
		holdPoints(t, "the oracle by hand", airSlow(c.burst, c.delay, c.quarter, c.noise), true, c.want)
	}
}

func TestModemAirOfManyBursts(t *testing.T) {
	g := formSource(1821)
	for _, n := range []int{0, 1, 2, 7, 100, 1000} {
		for _, delay := range []int{0, 1, 2, 50, maxDelay - 1, maxDelay} {
			for quarter := range 4 {
				burst := g.points(maxSample/2, n)
				for _, count := range []int{0, 1, delay, delay + n/2, delay + n - 1, delay + n} {
					if count >= 0 && count <= delay+n {
						airHolds(t, burst, delay, quarter, g.points(maxSample/2, count))
						airHolds(t, burst, delay, quarter, g.points(3, count))
					}
				}
				noAir(t, "one Point of noise too many", burst, delay, quarter, make([]impl.Point, delay+n+1))
				noAir(t, "far too many Points of noise", burst, delay, quarter, make([]impl.Point, delay+n+500))
			}
		}
	}
}

func TestModemAirOfNoSuchNumber(t *testing.T) {
	g := formSource(1822)
	for _, n := range []int{0, 1, 50} {
		burst := g.points(100, n)
		for _, delay := range append(beyond(maxDelay), -1, -2, -n-1, -maxDelay, math.MaxInt-n, math.MinInt+n) {
			for quarter := range 4 {
				noAir(t, "no such delay", burst, delay, quarter, nil)
			}
		}
		for _, quarter := range append(beyond(3), -1, -2, -3, -4, 4, 5, 8, 1<<32+2, math.MinInt+4) {
			for _, delay := range []int{0, 1, maxDelay} {
				noAir(t, "no such quarter", burst, delay, quarter, nil)
			}
		}
		airHolds(t, burst, maxDelay, 0, nil)
		airHolds(t, burst, 0, 3, nil)
	}
}

// MaxAir counts the delay too.
func TestModemAirOfTheMostPoints(t *testing.T) {
	g := formSource(1823)
	points := g.points(1000, maxAir+maxDelay+5)
	for _, delay := range []int{0, 1, 2, 100, maxDelay} {
		for quarter := range 4 {
			most := maxAir - delay
			airHolds(t, points[:most], delay, quarter, nil)
			airHolds(t, points[:most], delay, quarter, points[:maxAir])
			airHolds(t, points[:most-1], delay, quarter, points[:maxAir-1])
			noAir(t, "one Point too many", points[:most+1], delay, quarter, nil)
			noAir(t, "one Point too many, with noise", points[:most+1], delay, quarter, points[:maxAir])
			noAir(t, "one Point too many, with as much noise", points[:most+1], delay, quarter, points[:maxAir+1])
		}
	}
	noAir(t, "one Point too many", points[:maxAir+1], 0, 0, nil)
	noAir(t, "far too many Points", make([]impl.Point, 20000), 0, 0, nil)
	noAir(t, "noise of too many Points", points[:5], 0, 0, make([]impl.Point, maxAir+1))
	noAir(t, "noise of far too many Points", nil, 0, 0, make([]impl.Point, 20000))
}

// A sum at the end of the samples is taken, one beyond it refused, whichever of the two numbers it is and wherever it stands.
func TestModemAirAtTheEndsOfTheSamples(t *testing.T) {
	for _, a := range []int{1, 7, maxSample / 2, maxSample - 1, maxSample} {
		for _, sign := range []int{1, -1} {
			for at := range 3 {
				for quarter := range 4 {
					for _, p := range []impl.Point{{X: sign}, {Y: sign}} {
						burst, noise := make([]impl.Point, 3), make([]impl.Point, 5)
						burst[at] = impl.Point{X: p.X * a, Y: p.Y * a}
						way := quarterTurn(p, quarter)
						noise[2+at] = impl.Point{X: way.X * (maxSample - a), Y: way.Y * (maxSample - a)}
						airHolds(t, burst, 2, quarter, noise)
						noise[2+at] = impl.Point{X: way.X * (maxSample - a + 1), Y: way.Y * (maxSample - a + 1)}
						noAir(t, "a sum that is no sample", burst, 2, quarter, noise)
						noise[2+at] = impl.Point{X: way.X * maxSample, Y: way.Y * maxSample}
						noAir(t, "a sum that is far from a sample", burst, 2, quarter, noise)
						noise[2+at] = impl.Point{X: -way.X * maxSample, Y: -way.Y * maxSample}
						airHolds(t, burst, 2, quarter, noise)
					}
				}
			}
		}
	}
	ends := []impl.Point{{X: maxSample, Y: maxSample}, {X: -maxSample, Y: maxSample}, {X: maxSample, Y: -maxSample}, {X: -maxSample, Y: -maxSample}, {X: maxSample - 1, Y: 1 - maxSample}}
	for quarter := range 4 {
		airHolds(t, ends, 0, quarter, nil)
		airHolds(t, ends, 5, quarter, ends)
		airHolds(t, ends, 0, quarter, quarterTurns(ends, (quarter+2)%4))
	}
}

// A Point that is none is refused wherever it stands: where noise would bring it back, and where no noise reaches.
func TestModemAirOfNoSample(t *testing.T) {
	for _, bad := range noSamples {
		for _, p := range []impl.Point{{X: bad}, {Y: bad}, {X: bad, Y: bad}} {
			for at := range 4 {
				list := make([]impl.Point, 4)
				list[at] = p
				for quarter := range 4 {
					for _, delay := range []int{0, 3} {
						noAir(t, "a Point that is no sample", list, delay, quarter, nil)
						noAir(t, "a Point that is no sample, with noise ahead", list, delay, quarter, make([]impl.Point, delay+at))
						noAir(t, "a Point that is no sample, with noise", list, delay, quarter, make([]impl.Point, delay+4))
						noAir(t, "noise that is no sample", make([]impl.Point, 4), delay, quarter, list)
					}
				}
			}
		}
		back := []impl.Point{{X: max(min(-bad, maxSample), -maxSample)}}
		noAir(t, "a Point that noise would bring back", []impl.Point{{X: bad}}, 0, 0, back)
		noAir(t, "noise that a Point would bring back", back, 0, 0, []impl.Point{{X: bad}})
	}
}

// Four quarters are none; quarters one after the other are their sum.
func TestModemAirTurnsAround(t *testing.T) {
	g := formSource(1824)
	burst := append(g.points(maxSample, 200), impl.Point{X: maxSample, Y: -maxSample}, impl.Point{})
	for a := range 4 {
		for b := range 4 {
			once := onAir(t, burst, 0, a, nil)
			holdPoints(t, "turned twice", onAir(t, once, 0, b, nil), true, onAir(t, burst, 0, (a+b)%4, nil))
		}
		back := onAir(t, onAir(t, burst, 0, a, nil), 0, (4-a)%4, nil)
		holdPoints(t, "turned there and back", back, true, burst)
	}
	late := onAir(t, onAir(t, burst, 3, 1, nil), 4, 2, nil)
	holdPoints(t, "delayed twice", late, true, slices.Concat(make([]impl.Point, 7), onAir(t, burst, 0, 3, nil)))
}
