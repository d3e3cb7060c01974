package tests

import (
	"slices"
	"testing"

	"loop.example/g00043/impl"
)

// budgetNoises are as loud as the Budget allows everywhere: of one sign, of both, in turns, and by chance.
func (g *formSource) budgetNoises(most, count int) [][]impl.Point {
	lists := [][]impl.Point{g.points(most, count)}
	for _, p := range []impl.Point{{X: most, Y: most}, {X: most, Y: -most}, {X: -most, Y: most}, {X: -most, Y: -most}} {
		lists = append(lists, slices.Repeat([]impl.Point{p}, count))
	}
	turns, ends := []impl.Point{}, []impl.Point{}
	for at := range count {
		turns = append(turns, quarterTurn(impl.Point{X: most, Y: most}, at%4))
		ends = append(ends, impl.Point{X: most * (1 - 2*int(g.next()>>63)), Y: most * (1 - 2*int(g.next()>>63))})
	}
	return append(lists, turns, ends)
}

// withHurt adds what comes to each Point of the symbols at those places.
func withHurt(m impl.Modem, noise []impl.Point, delay int, places []int, what func(at int) impl.Point) []impl.Point {
	told := slices.Clone(noise)
	for _, place := range places {
		for held := range m.Rate {
			at := delay + m.Rate*(1+place) + held
			p := what(at)
			told[at] = impl.Point{X: told[at].X + p.X, Y: told[at].Y + p.Y}
		}
	}
	return told
}

// Without noise nothing is mended, over any delay and quarter.
func TestModemPromise20WithoutNoise(t *testing.T) {
	g := formSource(1841)
	for _, m := range manyModems() {
		for _, n := range []int{1, 2, 21, maxSent} {
			data := g.bytes(n)
			burst := sent(t, m, data)
			for _, delay := range []int{0, 1, 3, maxDelay} {
				for quarter := range 4 {
					hears(t, "what was sent", m, onAir(t, burst, delay, quarter, nil), data, 0)
				}
			}
			still := make([]impl.Point, 17+len(burst))
			hears(t, "what was sent, with noise that is none", m, onAir(t, burst, 17, 2, still), data, 0)
		}
	}
}

func TestModemPromise20OverEveryDelay(t *testing.T) {
	g := formSource(1842)
	for _, m := range fewModems() {
		data := g.bytes(3)
		burst := sent(t, m, data)
		size, _ := impl.Budget(m)
		for delay := range maxDelay + 1 {
			for quarter := range 4 {
				noise := g.points(size, delay+len(burst))
				hears(t, "what was sent", m, onAir(t, burst, delay, quarter, noise), data, 0)
			}
		}
	}
}

// Noise at the ends of the Budget alone rounds away, so that nothing is mended.
func TestModemPromise20WithNoiseAtTheEnds(t *testing.T) {
	g := formSource(1843)
	for _, m := range manyModems() {
		size, _ := impl.Budget(m)
		data := g.bytes(1 + int(g.next()%maxSent))
		burst := sent(t, m, data)
		for _, delay := range []int{0, 5, maxDelay} {
			for quarter := range 4 {
				for _, noise := range g.budgetNoises(size, delay+len(burst)) {
					hears(t, "a burst with noise", m, onAir(t, burst, delay, quarter, noise), data, 0)
					hears(t, "a burst with noise in front", m, onAir(t, burst, delay, quarter, noise[:len(noise)/2]), data, 0)
				}
			}
		}
	}
}

// brings wants the data, with no more mended than may be and as many as the oracle says.
func brings(t *testing.T, what string, m impl.Modem, air []impl.Point, data []byte) {
	t.Helper()
	_, far, ok := hearSlow(m, air, len(data))
	if !ok || far > m.Mend {
		t.Errorf("the oracle does not hear %s by %v: %d, %v", what, m, far, ok)
	}
	hears(t, what, m, air, data, far)
}

// As many symbols as the Budget says may be anything: by chance, at the ends of the samples, or nought.
func TestModemPromise20WithHurtSymbols(t *testing.T) {
	g := formSource(1844)
	for _, m := range manyModems() {
		size, many := impl.Budget(m)
		if many == 0 {
			continue
		}
		data := g.bytes(1 + int(g.next()%maxSent))
		burst := sent(t, m, data)
		delay, loud := int(g.next()%(maxDelay+1)), maxSample-16*maxSize
		for quarter := range 4 {
			still := airSlow(burst, delay, quarter, nil)
			for at, what := range []func(at int) impl.Point{
				func(int) impl.Point { return g.points(loud, 1)[0] },
				func(int) impl.Point { return g.points(20*m.Size, 1)[0] },
				func(int) impl.Point { return impl.Point{X: loud, Y: loud} },
				func(int) impl.Point { return impl.Point{X: -loud, Y: loud} },
				func(int) impl.Point { return impl.Point{X: loud, Y: -loud} },
				func(int) impl.Point { return impl.Point{X: -loud, Y: -loud} },
				func(at int) impl.Point { return impl.Point{X: -still[at].X, Y: -still[at].Y} },
				func(at int) impl.Point { return impl.Point{X: -2 * still[at].X, Y: -2 * still[at].Y} },
			} {
				noises := g.budgetNoises(size, delay+len(burst))
				for _, count := range []int{1, many} {
					noise := withHurt(m, noises[at%len(noises)], delay, g.places(symbolCount(m, len(data)), count), what)
					brings(t, "a burst with hurt symbols", m, onAir(t, burst, delay, quarter, noise), data)
				}
			}
		}
	}
}

// opposite are the Points whose bits are all turned: the worst that a symbol can be.
func opposite(m impl.Modem, data []byte) []impl.Point {
	bits := bitsOnWay(m, codeSlow(data, m.Mend))
	for len(bits)%m.Width != 0 {
		bits = append(bits, 0)
	}
	for at := range bits {
		bits[at] = 1 - bits[at]
	}
	return heldSlow(m, mapSlow(m.Width, bits))
}

// Woven in as many rows as there are bytes each bit of a symbol is of another byte: hurt in all bits, as many symbols as the Budget says take just so many bytes, and one more, where these are then too many, is too much.
func TestModemPromise20WithTheWorstSymbols(t *testing.T) {
	for _, width := range pointWidths {
		for mend := width; mend <= maxMend; mend++ {
			for _, n := range []int{8, 19, maxSent} {
				m := impl.Modem{Width: width, Mend: mend, Rows: n + 2*mend, Seed: 12345, Rate: 2, Size: 9}
				data := slices.Repeat([]byte{0x5A, 3}, n)[:n]
				burst, worst := sent(t, m, data), opposite(m, data)
				_, many := impl.Budget(m)
				holdInt(t, "the symbols that may be hurt", many, mend/width, m)
				for count := range many + 1 {
					hurt := slices.Clone(burst)
					copy(hurt[2:], worst[2:2+2*count])
					for quarter := range 4 {
						hears(t, "a burst with the worst symbols", m, onAir(t, hurt, 40, quarter, nil), data, width*count)
					}
				}
				hurt := slices.Clone(burst)
				copy(hurt[2:], worst[2:4+2*many])
				hearHolds(t, "a burst with one symbol too many", m, hurt, n)
			}
		}
	}
}

// Each symbol by itself may be the hurt one, the last too.
func TestModemPromise20WithEachSymbolHurt(t *testing.T) {
	g := formSource(1845)
	for _, m := range []impl.Modem{{Width: 2, Mend: 2, Rows: 7, Seed: 17, Rate: 1, Size: 1}, {Width: 4, Mend: 5, Rows: 9, Seed: 18, Rate: 3, Size: 4}, {Width: 6, Mend: 6, Rows: 10, Seed: 19, Rate: 2, Size: 7}, {Width: 8, Mend: 8, Rows: 13, Seed: 20, Rate: 1, Size: 100}} {
		data := g.bytes(9)
		burst, worst := sent(t, m, data), opposite(m, data)
		for at := range symbolCount(m, len(data)) {
			hurt := atSymbol(m, burst, at, worst[m.Rate*(1+at):m.Rate*(2+at)])
			brings(t, "a burst with the worst symbol", m, onAir(t, hurt, at%7, at%4, nil), data)
			hurt = atSymbol(m, burst, at, make([]impl.Point, m.Rate))
			brings(t, "a burst with a lost symbol", m, onAir(t, hurt, at%7, at%4, nil), data)
			hurt = atSymbol(m, burst, at, g.points(maxSample, m.Rate))
			brings(t, "a burst with a loud symbol", m, onAir(t, hurt, at%7, at%4, nil), data)
		}
	}
}
