package tests

import (
	"slices"
	"testing"

	"loop.example/g00043/impl"
)

func heardOf(data []byte, _ int, ok bool) ([]byte, bool) { return data, ok }

func pointsOf(points []impl.Point, _ bool) []impl.Point { return points }

// newPoints writes over a burst that was told, and wants it as it was once more.
func newPoints(t *testing.T, what string, call func() ([]impl.Point, bool)) {
	t.Helper()
	first, ok := call()
	want := slices.Clone(first)
	fillWith(first, impl.Point{X: -9, Y: 77})
	again, okAgain := call()
	holdPoints(t, what+", again,", again, ok && okAgain, want)
}

func TestModemBurstsAreNewMemory(t *testing.T) {
	g := formSource(1851)
	for _, m := range manyModems() {
		data := g.bytes(1 + int(g.next()%maxSent))
		untouchedBytes(t, "Send", data, func(data []byte) {
			newPoints(t, "Send", func() ([]impl.Point, bool) { return impl.Send(m, data) })
		})
		burst := sendSlow(m, data)
		for quarter := range 4 {
			for _, delay := range []int{0, 9} {
				for _, count := range []int{0, 5, delay + len(burst)} {
					untouchedPoints(t, "Air", burst, func(burst []impl.Point) {
						untouchedPoints(t, "Air", g.points(100, count), func(noise []impl.Point) {
							newPoints(t, "Air", func() ([]impl.Point, bool) { return impl.Air(burst, delay, quarter, noise) })
						})
					})
				}
			}
		}
	}
}

func TestModemBytesAreNewMemory(t *testing.T) {
	g := formSource(1852)
	for _, m := range manyModems() {
		data := g.bytes(1 + int(g.next()%maxSent))
		word := codeSlow(data, m.Mend)
		for _, count := range []int{0, m.Mend} {
			burst := append(make([]impl.Point, 4), sendWordSlow(m, g.hurt(word, g.places(len(word), count)))...)
			untouchedPoints(t, "Hear", burst, func(burst []impl.Point) {
				first, ok := heardOf(impl.Hear(m, burst, len(data)))
				holdBytes(t, "Hear", first, ok, data)
				fillWith(first, 0x5A)
				again, ok := heardOf(impl.Hear(m, burst, len(data)))
				holdBytes(t, "Hear, again,", again, ok, data)
			})
		}
	}
}

// Burst and noise may be one list: what is told shares no memory with it.
func TestModemAirOfOneListTwice(t *testing.T) {
	g := formSource(1853)
	list := g.points(1000, 30)
	ahead := slices.Clone(list)
	told := onAir(t, list, 0, 1, list)
	holdPoints(t, "Air of one list twice", told, true, airSlow(ahead, 0, 1, ahead))
	fillWith(told, impl.Point{X: 5})
	told = onAir(t, list, 0, 0, nil)
	fillWith(told, impl.Point{X: 5})
	holdPoints(t, "the list", list, true, ahead)
}

func TestModemReadsNoSpareRoom(t *testing.T) {
	g := formSource(1854)
	for _, m := range fewModems() {
		data := g.bytes(20)
		burst := append(sendSlow(m, data), impl.Point{X: maxSample + 1}, impl.Point{Y: maxSample + 1})
		n := len(burst) - 2
		hears(t, "a burst with more behind its end", m, burst[:n], data, 0)
		noHearing(t, "a burst whose last Point stands behind its end", m, burst[:n-1], len(data))
		holdPoints(t, "Air with more behind", pointsOf(impl.Air(burst[:n], 1, 1, burst[:2])), true, airSlow(burst[:n], 1, 1, burst[:2]))
		noSending(t, "nothing, with bytes behind", m, data[:0])
		long := g.bytes(maxSent + 5)
		sendHolds(t, m, long[:maxSent])
		sendHolds(t, m, long[:1])
	}
}

func TestModemRefusedArgumentsStay(t *testing.T) {
	g := formSource(1855)
	for _, m := range append(noModems(), fewModems()...) {
		for _, n := range []int{0, 1, maxSent, maxSent + 1} {
			untouchedBytes(t, "what may be refused", g.bytes(n), func(data []byte) {
				fillWith(pointsOf(impl.Send(m, data)), impl.Point{X: -9})
			})
			untouchedPoints(t, "what may be refused", append(g.points(maxSample, 50), impl.Point{Y: maxSample + n - 1}), func(burst []impl.Point) {
				fillWith(bytesOf(heardOf(impl.Hear(m, burst, n))), 0x5A)
				for _, delay := range []int{-1, 0, maxDelay + 1} {
					fillWith(pointsOf(impl.Air(burst, delay, n, burst)), impl.Point{X: -9})
					fillWith(pointsOf(impl.Air(burst[:20], delay, 1, burst)), impl.Point{X: -9})
					fillWith(pointsOf(impl.Air(burst, delay, 1, burst[:20])), impl.Point{X: -9})
				}
			})
		}
	}
}

// Nothing is kept: what is heard in between, and how much of it was mended, changes no answer.
func TestModemKeepsNothing(t *testing.T) {
	g := formSource(1856)
	m := impl.Modem{Width: 4, Mend: 4, Rows: 4, Seed: 99, Rate: 2, Size: 11}
	data := []byte("kept by nobody")
	burst, word := sendSlow(m, data), codeSlow(data, 4)
	hurt := sendWordSlow(m, g.hurt(word, []int{1, 5, 9}))
	for _, other := range append(fewModems(), noModems()[:9]...) {
		for range 3 {
			impl.Send(other, g.bytes(7))
			impl.Hear(other, burst, 3)
			impl.Hear(m, burst[:30], len(data))
			impl.Air(hurt, 3, 3, burst)
			impl.Budget(other)
			hears(t, "a hurt burst, again,", m, hurt, data, 3)
			hears(t, "a burst, again,", m, burst, data, 0)
			sendHolds(t, m, data)
			holdBudget(t, m, 5, 1)
		}
	}
}

// Bursts are heard by several at once, each of which counts what it mends by itself.
func TestModemManyHearAtOnce(t *testing.T) {
	g := formSource(1857)
	m := impl.Modem{Width: 6, Mend: 8, Rows: 11, Seed: 555, Rate: 2, Size: 3}
	data := g.bytes(30)
	word := codeSlow(data, m.Mend)
	done := make(chan bool)
	for count := range m.Mend + 1 {
		burst := sendWordSlow(m, g.hurt(word, g.places(len(word), count)))
		go func() {
			ok := true
			for range 20 {
				got, mended, heard := impl.Hear(m, burst, len(data))
				ok = ok && heard && slices.Equal(got, data) && mended == count
			}
			done <- ok
		}()
	}
	for range m.Mend + 1 {
		if !<-done {
			t.Error("bursts that are heard at once come out otherwise")
		}
	}
}
