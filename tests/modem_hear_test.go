package tests

import (
	"math"
	"slices"
	"testing"

	"loop.example/g00043/impl"
)

var noSentLengths = append(beyond(maxSent), 0, -1, -maxSent, 255, 256, 257, 1<<32+2, math.MinInt+1)

// begun puts other Points where a burst begins.
func begun(m impl.Modem, data []byte, first []impl.Point, quarter int) []impl.Point {
	return append(slices.Clone(first), quarterTurns(sendSlow(m, data)[m.Rate:], quarter)...)
}

// notBegun has no sign of a beginning.
func notBegun(t *testing.T, what string, m impl.Modem, data []byte, first []impl.Point) {
	t.Helper()
	for quarter := range 4 {
		burst := begun(m, data, first, quarter)
		noHearing(t, what, m, burst, len(data))
		if _, _, ok := hearSlow(m, burst, len(data)); ok {
			t.Errorf("the oracle hears %s", what)
		}
	}
}

func TestModemHearByHand(t *testing.T) {
	burst := []impl.Point{{X: 32}, {X: 1, Y: -1}, {X: -1, Y: -1}, {X: -1, Y: -1}, {X: -1, Y: 1}, {X: -1, Y: -1}, {X: -1, Y: 1}, {X: -1, Y: 1}, {X: -1, Y: 1}, {X: 1, Y: -1}, {X: -1, Y: -1}, {X: -1, Y: -1}, {X: -1, Y: -1}}
	m := impl.Modem{Width: 2, Mend: 1, Rows: 1, Seed: 1, Rate: 1, Size: 1}
	hears(t, "a burst by hand", m, burst, []byte{1}, 0)
	for at := 1; at < len(burst); at++ {
		hurt := slices.Clone(burst)
		hurt[at] = impl.Point{X: -burst[at].X, Y: -burst[at].Y}
		hears(t, "a burst with a hurt symbol", m, hurt, []byte{1}, 1)
	}
	burst[1].X, burst[5].X = -burst[1].X, -burst[5].X
	hearHolds(t, "a burst with two hurt bytes", m, burst, 1)
}

func TestModemHearOfEveryLength(t *testing.T) {
	g := formSource(1831)
	for _, m := range fewModems() {
		for n := 1; n <= maxSent; n++ {
			data := g.bytes(n)
			burst := sendSlow(m, data)
			hears(t, "what was sent", m, burst, data, 0)
			if n > 1 {
				hearHolds(t, "a burst of more bytes", m, burst, n-1)
			}
			noHearing(t, "a burst of fewer bytes", m, burst, min(n+2, maxSent+1))
		}
	}
}

func TestModemHearOfNoSuchLength(t *testing.T) {
	for _, m := range fewModems() {
		for _, burst := range [][]impl.Point{sendSlow(m, make([]byte, 1)), sendSlow(m, make([]byte, maxSent)), append(sendSlow(m, make([]byte, maxSent)), make([]impl.Point, 2000)...)} {
			for _, n := range noSentLengths {
				noHearing(t, "no such length", m, burst, n)
			}
		}
		hears(t, "MaxSent bytes", m, sendSlow(m, make([]byte, maxSent)), make([]byte, maxSent), 0)
	}
	// A word of MaxSent + 1 bytes that is sent by the steps is not heard either.
	for _, m := range fewModems() {
		noHearing(t, "one byte too many", m, sendWordSlow(m, codeSlow(make([]byte, maxSent+1), m.Mend)), maxSent+1)
	}
}

func TestModemHearOfNoModem(t *testing.T) {
	good := impl.Modem{Width: 4, Mend: 4, Rows: 4, Seed: 99, Rate: 2, Size: 11}
	burst := append(sendSlow(good, []byte("hi")), make([]impl.Point, 1000)...)
	for _, m := range noModems() {
		for _, n := range []int{-1, 0, 1, 2, maxSent} {
			noHearing(t, "a burst, by a modem that is none", m, burst, n)
			noHearing(t, "silence, by a modem that is none", m, nil, n)
		}
	}
	hears(t, "a burst with Points behind it", good, burst, []byte("hi"), 0)
}

// Silence behind a burst of MaxAir Points is taken; one Point more, or one that is no sample, even behind the last symbol, is not.
func TestModemHearOfNoBurst(t *testing.T) {
	for _, m := range fewModems() {
		data := []byte("tone")
		burst := sendSlow(m, data)
		full := append(slices.Clone(burst), make([]impl.Point, maxAir-len(burst))...)
		hears(t, "MaxAir Points", m, full, data, 0)
		noHearing(t, "one Point too many", m, append(full, impl.Point{}), len(data))
		noHearing(t, "far too many Points", m, append(full, make([]impl.Point, 5000)...), len(data))
		for _, bad := range noSamples {
			for _, at := range []int{0, m.Rate, len(burst) - 1, len(burst), maxAir - 1} {
				for _, p := range []impl.Point{{X: bad}, {Y: bad}} {
					hurt := slices.Clone(full)
					hurt[at] = p
					noHearing(t, "a Point that is no sample", m, hurt, len(data))
				}
			}
		}
		last := slices.Clone(full)
		last[maxAir-1] = impl.Point{X: maxSample, Y: -maxSample}
		hears(t, "a loud last Point", m, last, data, 0)
	}
}

func TestModemHearOfSilence(t *testing.T) {
	for _, m := range fewModems() {
		for _, n := range []int{0, 1, 2, 100, maxAir} {
			noHearing(t, "silence", m, make([]impl.Point, n), 1)
			noHearing(t, "noise below the beginning", m, slices.Repeat([]impl.Point{{X: 16 * m.Size, Y: -16 * m.Size}}, n), 1)
		}
		noHearing(t, "nothing", m, nil, 1)
		data := []byte{9, 8}
		noHearing(t, "symbols alone", m, sendSlow(m, data)[m.Rate:], len(data))
	}
}

// A Point of just 16 Size, in X or Y or both, does not begin a burst; one more does, of either sign.
func TestModemHearBeginsBeyondSixteen(t *testing.T) {
	for _, m := range []impl.Modem{{Width: 2, Mend: 1, Rows: 1, Seed: 1, Rate: 1, Size: 1}, {Width: 8, Mend: 8, Rows: 64, Seed: 5, Rate: 1, Size: 10000}, {Width: 4, Mend: 2, Rows: 7, Seed: 777, Rate: 1, Size: 11}} {
		data, least := []byte{1, 200, 33}, 16*m.Size
		for quarter := range 4 {
			for _, y := range []int{0, 1, -1, least, -least} {
				first := quarterTurn(impl.Point{X: least + 1, Y: y}, quarter)
				hears(t, "a burst that begins with one more than 16 Size", m, begun(m, data, []impl.Point{first}, quarter), data, 0)
				first = quarterTurn(impl.Point{X: least, Y: y}, quarter)
				notBegun(t, "a burst that begins with 16 Size", m, data, []impl.Point{first})
			}
			// What stands ahead, up to 16 Size, is passed over.
			ahead := quarterTurn(impl.Point{X: least, Y: -least}, quarter)
			burst := append([]impl.Point{ahead, {}, ahead}, quarterTurns(sendSlow(m, data), quarter)...)
			hears(t, "a burst behind loud Points", m, burst, data, 0)
		}
	}
}

// The sum of Rate Points counts for the quarter, and the first alone for where it begins.
func TestModemHearBeginsWithItsFirstPoint(t *testing.T) {
	m := impl.Modem{Width: 4, Mend: 3, Rows: 5, Seed: 321, Rate: 3, Size: 7}
	data, over := []byte("begin"), 16*7+1
	for quarter := range 4 {
		for _, first := range [][]impl.Point{
			{{X: over}, {}, {}}, {{X: over}, {X: -over}, {X: 1}}, {{X: over}, {Y: over}, {Y: -over}}, {{Y: over}, {X: over}, {X: 1}}, {{X: -over}, {X: over}, {X: 5, Y: -4}}, {{X: -over, Y: over}, {X: over, Y: -over}, {X: 9, Y: 8}}, {{Y: -over}, {X: maxSample}, {X: maxSample}}, {{X: maxSample, Y: maxSample}, {Y: -maxSample}, {}},
		} {
			hears(t, "a burst with such a beginning", m, begun(m, data, quarterTurns(first, quarter), quarter), data, 0)
		}
		notBegun(t, "a burst that does not begin", m, data, quarterTurns([]impl.Point{{X: over - 1}, {X: over - 1}, {X: over - 1}}, quarter))
	}
	// Only the last Point of what should begin it is beyond: all that follows is two Points too early.
	late := begun(m, data, []impl.Point{{X: over - 1}, {X: over - 1}, {X: over}}, 0)
	noHearing(t, "a burst that begins too late", m, late, len(data))
	hearHolds(t, "a burst that begins too late", m, append(late, impl.Point{}, impl.Point{}), len(data))
}

// Where x's size is y's, x alone counts; a sum of nought is turned by two quarters.
func TestModemHearQuarterByTheSum(t *testing.T) {
	m := impl.Modem{Width: 6, Mend: 2, Rows: 9, Seed: 4711, Rate: 2, Size: 5}
	data := []byte("turned")
	for _, c := range []struct {
		x, y, quarter int
	}{
		{100, 0, 0}, {-100, 0, 2}, {0, 100, 1}, {0, -100, 3},
		{100, 100, 0}, {100, -100, 0}, {-100, 100, 2}, {-100, -100, 2},
		{100, 99, 0}, {100, -99, 0}, {-100, 99, 2}, {-100, -99, 2}, {99, 100, 1}, {-99, 100, 1}, {99, -100, 3}, {-99, -100, 3},
		{0, 0, 2}, {1, 0, 0}, {-1, 0, 2}, {0, 1, 1}, {0, -1, 3}, {1, 1, 0}, {-1, 1, 2}, {1, -1, 0}, {-1, -1, 2},
		{2 * maxSample, 2 * maxSample, 0}, {-2 * maxSample, 2 * maxSample, 2}, {2*maxSample - 1, -2 * maxSample, 3}, {1 - 2*maxSample, 2 * maxSample, 1},
	} {
		// The two Points add up to x and y; the first is beyond 16 Size.
		first := impl.Point{X: 90, Y: -7}
		if sizeSlow(c.x) > maxSample || sizeSlow(c.y) > maxSample {
			first = impl.Point{X: c.x / 2, Y: c.y / 2}
		}
		begin := []impl.Point{first, {X: c.x - first.X, Y: c.y - first.Y}}
		for quarter := range 4 {
			burst := begun(m, data, begin, quarter)
			if quarter == c.quarter {
				hears(t, "a burst turned so", m, burst, data, 0)
			} else {
				hearHolds(t, "a burst turned otherwise than it begins", m, burst, len(data))
			}
		}
	}
}

// One Point too few is refused, also of the beginning; what stands behind the last symbol is passed over.
func TestModemHearOfTooFewPoints(t *testing.T) {
	g := formSource(1832)
	for _, m := range fewModems() {
		for _, n := range []int{1, 2, 3, maxSent} {
			data := g.bytes(n)
			for _, delay := range []int{0, 1, maxDelay} {
				burst := append(make([]impl.Point, delay), sendSlow(m, data)...)
				for _, missing := range []int{1, 2, m.Rate, m.Rate + 1, len(burst) - delay - m.Rate, len(burst) - delay - 1, len(burst) - delay} {
					noHearing(t, "too few Points", m, burst[:len(burst)-missing], n)
					noHearing(t, "too few Points, with none behind", m, slices.Clip(burst[:len(burst)-missing]), n)
				}
				hears(t, "just enough Points", m, burst, data, 0)
				for _, behind := range [][]impl.Point{{{}}, {{X: maxSample, Y: maxSample}}, g.points(maxSample, 3), g.points(50*m.Size, 300), sendSlow(m, g.bytes(5))} {
					hears(t, "a burst with Points behind it", m, slices.Concat(burst, behind), data, 0)
				}
			}
		}
	}
}

// atSymbol is a burst whose symbol is said with other Points.
func atSymbol(m impl.Modem, burst []impl.Point, at int, points []impl.Point) []impl.Point {
	told := slices.Clone(burst)
	copy(told[m.Rate*(1+at):], points)
	return told
}

// A symbol beyond the outermost Points of Map is the outermost one.
func TestModemHearBeyondTheOutermost(t *testing.T) {
	g := formSource(1833)
	for _, m := range append(fewModems(), impl.Modem{Width: 4, Mend: 1, Rows: 2, Seed: 3, Rate: 1, Size: 1}) {
		data := g.bytes(4)
		burst := sendSlow(m, data)
		top := (1<<(m.Width/2) - 1) * m.Size
		for _, by := range []int{1, m.Size, 2 * m.Size, 40 * m.Size, maxSample - top} {
			loud := slices.Clone(burst)
			for at := m.Rate; at < len(loud); at++ {
				for _, x := range []*int{&loud[at].X, &loud[at].Y} {
					if *x == top {
						*x += by
					} else if *x == -top {
						*x -= by
					}
				}
			}
			for quarter := range 4 {
				hears(t, "a burst that is too loud", m, quarterTurns(loud, quarter), data, 0)
			}
		}
	}
}

// Where the sum lies half between two whole numbers, the greater one is taken; a symbol half between two Points is the greater one too.
func TestModemHearRoundsHalves(t *testing.T) {
	for _, m := range []impl.Modem{{Width: 4, Mend: 2, Rows: 1, Seed: 9, Rate: 1, Size: 2}, {Width: 4, Mend: 2, Rows: 3, Seed: 9, Rate: 2, Size: 1}, {Width: 6, Mend: 3, Rows: 8, Seed: 99, Rate: 4, Size: 5}, {Width: 8, Mend: 2, Rows: 1, Seed: 999, Rate: 8, Size: 10000}} {
		data := []byte{0, 255, 77}
		burst := sendSlow(m, data)
		whole := m.Rate * m.Size
		for at := range symbolCount(m, len(data)) {
			for _, by := range []int{whole/2 - 1, whole / 2, whole/2 + 1, -whole / 2, -whole/2 - 1, 1 - whole/2, whole, -whole, -whole - whole/2, -whole - whole/2 - 1, whole + whole/2} {
				for _, p := range []impl.Point{{X: by}, {Y: by}, {X: by, Y: by}, {X: by, Y: -by}} {
					held := slices.Clone(burst[m.Rate*(1+at) : m.Rate*(2+at)])
					held[m.Rate-1].X += p.X
					held[m.Rate-1].Y += p.Y
					hearHolds(t, "a burst with halves", m, atSymbol(m, burst, at, held), len(data))
				}
			}
		}
	}
}

// By hand: with Size 2 and Rate 1 a noise of 1 leads to the next Point, and one of -1 does not.
func TestModemHearOfAHalfByHand(t *testing.T) {
	m := impl.Modem{Width: 2, Mend: 1, Rows: 1, Seed: 1, Rate: 1, Size: 2}
	burst := sendSlow(m, []byte{1})
	for at := 1; at < len(burst); at++ {
		for _, by := range []int{1, -1} {
			hurt := slices.Clone(burst)
			hurt[at].X += by
			want := 0
			if by == 1 && burst[at].X < 0 {
				want = 1
			}
			hears(t, "a burst with a half", m, hurt, []byte{1}, want)
		}
	}
}

// A word with up to Mend bytes hurt comes back, and it is told how many were; with one more it is as RsMend says.
func TestModemHearOfHurtWords(t *testing.T) {
	g := formSource(1834)
	for _, m := range manyModems() {
		data := g.bytes(1 + int(g.next()%maxSent))
		word := codeSlow(data, m.Mend)
		for count := range m.Mend + 1 {
			hears(t, "a hurt word", m, sendWordSlow(m, g.hurt(word, g.places(len(word), count))), data, count)
		}
		hearHolds(t, "a word hurt in one byte too many", m, sendWordSlow(m, g.hurt(word, g.places(len(word), m.Mend+1))), len(data))
		if m.Mend > 2 {
			noHearing(t, "a word hurt in twice as many bytes", m, sendWordSlow(m, slices.Repeat([]byte{0xA5, 0x3C}, len(word))[:len(word)]), len(data))
		}
	}
}

// The check bytes may be the ones that are hurt.
func TestModemHearOfHurtChecks(t *testing.T) {
	g := formSource(1835)
	for _, m := range fewModems() {
		data := g.bytes(6)
		word := codeSlow(data, m.Mend)
		hurt := slices.Clone(word)
		for at := range m.Mend {
			hurt[len(data)+2*at] ^= 255
		}
		hears(t, "a word with hurt checks", m, sendWordSlow(m, hurt), data, m.Mend)
	}
}

// By another modem than sent it is told what the steps say: nothing, or other bytes.
func TestModemHearByAnotherModem(t *testing.T) {
	data := []byte("other")
	list := fewModems()
	for _, m := range list {
		burst := append(sendSlow(m, data), make([]impl.Point, 600)...)
		for _, other := range list {
			hearHolds(t, "a burst of another modem", other, burst, len(data))
		}
		other := m
		other.Seed = 1 + m.Seed%maxTurn
		hearHolds(t, "a burst with another seed", other, burst, len(data))
		other = m
		other.Rows = 1 + m.Rows%maxWoven
		hearHolds(t, "a burst of other rows", other, burst, len(data))
	}
}

func TestModemHearOfChance(t *testing.T) {
	g := formSource(1836)
	for range 400 {
		m := manyModems()[g.next()%192]
		n := 1 + int(g.next()%4)
		burst := g.points(40*m.Size, m.Rate*(2+symbolCount(m, n)))
		hearHolds(t, "chance", m, burst, n)
		data := g.bytes(n)
		near := airSlow(sendSlow(m, data), 3, int(g.next()%4), g.points(2*m.Size, 3+m.Rate*(1+symbolCount(m, n))))
		hearHolds(t, "too much noise", m, near, n)
	}
}
