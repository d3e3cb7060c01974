package tests

import (
	"slices"
	"testing"

	"loop.example/g00043/impl"
)

// twice says each point two times.
func twice(points []impl.Point) []impl.Point {
	told := []impl.Point{}
	for _, p := range points {
		told = append(told, p, p)
	}
	return told
}

// The word is 1, 3, 2; by the seed 1 it is stirred with 10000000 00010110 10000010.
func TestModemSendByHand(t *testing.T) {
	plain := []impl.Point{{X: 32}, {X: 1, Y: -1}, {X: -1, Y: -1}, {X: -1, Y: -1}, {X: -1, Y: 1}, {X: -1, Y: -1}, {X: -1, Y: 1}, {X: -1, Y: 1}, {X: -1, Y: 1}, {X: 1, Y: -1}, {X: -1, Y: -1}, {X: -1, Y: -1}, {X: -1, Y: -1}}
	woven := twice([]impl.Point{{X: 160}, {X: 15, Y: -15}, {X: -15, Y: -15}, {X: -15, Y: -5}, {X: -5, Y: 15}, {X: 15, Y: -5}, {X: 5, Y: -15}})
	for _, c := range []struct {
		m    impl.Modem
		want []impl.Point
	}{
		{impl.Modem{Width: 2, Mend: 1, Rows: 1, Seed: 1, Rate: 1, Size: 1}, plain}, {impl.Modem{Width: 2, Mend: 1, Rows: 24, Seed: 1, Rate: 1, Size: 1}, plain}, {impl.Modem{Width: 2, Mend: 1, Rows: 64, Seed: 1, Rate: 1, Size: 1}, plain},
		{impl.Modem{Width: 4, Mend: 1, Rows: 3, Seed: 1, Rate: 2, Size: 5}, woven},
	} {
		holdPoints(t, "Send by hand", sent(t, c.m, []byte{1}), true, c.want)
		holdPoints(t, "the oracle by hand", sendSlow(c.m, []byte{1}), true, c.want)
	}
}

func sendHolds(t *testing.T, m impl.Modem, data []byte) {
	t.Helper()
	burst := sent(t, m, data)
	holdPoints(t, "Send", burst, true, sendSlow(m, data))
	holdInt(t, "how many Points there are", len(burst), m.Rate*(1+symbolCount(m, len(data))), m, data)
}

func TestModemSendPointByPoint(t *testing.T) {
	g := formSource(1811)
	for _, m := range manyModems() {
		for _, n := range []int{1, 2, 3, 17, maxSent - 1, maxSent} {
			sendHolds(t, m, g.bytes(n))
		}
		sendHolds(t, m, make([]byte, 5))
		sendHolds(t, m, slices.Repeat([]byte{255}, maxSent))
	}
}

func TestModemSendOfEveryLength(t *testing.T) {
	g := formSource(1812)
	for _, m := range fewModems() {
		for n := 1; n <= maxSent; n++ {
			sendHolds(t, m, g.bytes(n))
		}
	}
}

// Of six bits a Point, words of bytes fill the last one only where their bits are a multiple of 24.
func TestModemSendFillsTheLastPoint(t *testing.T) {
	g := formSource(1813)
	filled := map[int]bool{}
	for n := 1; n <= maxSent; n++ {
		for mend := 1; mend <= maxMend; mend++ {
			m := impl.Modem{Width: 6, Mend: mend, Rows: 1 + int(g.next()%maxWoven), Seed: 1 + int(g.next()%maxTurn), Rate: 1, Size: 1}
			data := g.bytes(n)
			burst := sent(t, m, data)
			bits := bitsOnWay(m, codeSlow(data, mend))
			missing := 6*(len(burst)-1) - len(bits)
			filled[missing] = true
			back, ok := impl.Decide(6, burst[1:])
			holdSignal(t, "the bits of a burst", back, ok, append(bits, make([]int, missing)...))
		}
	}
	if !filled[0] || !filled[2] || !filled[4] || len(filled) != 3 {
		t.Errorf("the last Points were filled with %v", filled)
	}
}

// Each field has its part: another one makes another burst.
func TestModemSendHangsOnEachField(t *testing.T) {
	m := impl.Modem{Width: 4, Mend: 4, Rows: 4, Seed: 99, Rate: 2, Size: 11}
	data := []byte("tonehouse")
	burst := sent(t, m, data)
	for _, other := range []impl.Modem{
		{Width: 2, Mend: 4, Rows: 4, Seed: 99, Rate: 2, Size: 11}, {Width: 4, Mend: 5, Rows: 4, Seed: 99, Rate: 2, Size: 11}, {Width: 4, Mend: 4, Rows: 5, Seed: 99, Rate: 2, Size: 11}, {Width: 4, Mend: 4, Rows: 4, Seed: 98, Rate: 2, Size: 11}, {Width: 4, Mend: 4, Rows: 4, Seed: 99, Rate: 3, Size: 11}, {Width: 4, Mend: 4, Rows: 4, Seed: 99, Rate: 2, Size: 12},
	} {
		if slices.Equal(sent(t, other, data), burst) {
			t.Errorf("%v sends as %v does", other, m)
		}
		sendHolds(t, other, data)
	}
}

func noSending(t *testing.T, what string, m impl.Modem, data []byte) {
	t.Helper()
	got, ok := impl.Send(m, data)
	noPoints(t, "Send of "+what, got, ok)
}

func TestModemSendThatIsRefused(t *testing.T) {
	for _, m := range manyModems() {
		noSending(t, "nothing", m, nil)
		noSending(t, "nothing", m, []byte{})
		noSending(t, "one byte too many", m, make([]byte, maxSent+1))
	}
	for _, m := range fewModems() {
		for _, n := range []int{maxSent + 2, 2 * maxSent, 255, 256, 257, 296, 1 << 16, 1<<16 + 1} {
			noSending(t, "too many bytes", m, make([]byte, n))
		}
	}
	for _, m := range noModems() {
		for _, n := range []int{0, 1, 5, maxSent, maxSent + 1} {
			noSending(t, "a modem that is none", m, make([]byte, n))
		}
	}
}
