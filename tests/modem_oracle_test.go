package tests

import (
	"slices"
	"testing"

	"loop.example/g00043/impl"
)

// The oracle of a modem: the document's steps one after the other, by the oracles of symbols and of block codes; points are turned in whole numbers, a quarter at a time, and quotients are the greatest whole number that is not too great.

const (
	maxSent  = impl.MaxSent
	maxAir   = impl.MaxAir
	maxDelay = 200
	maxHeld  = 8
	maxSize  = 10000
)

func quarterTurn(p impl.Point, quarter int) impl.Point {
	for range quarter {
		p = impl.Point{X: -p.Y, Y: p.X}
	}
	return p
}

func quarterTurns(points []impl.Point, quarter int) []impl.Point {
	told := []impl.Point{}
	for _, p := range points {
		told = append(told, quarterTurn(p, quarter))
	}
	return told
}

func bitsOnWay(m impl.Modem, word []byte) []int {
	return stirSlow(weaveSlow(unpack8Slow(word, 8*len(word)), m.Rows), 46080, m.Seed)
}

// heldSlow says each point Rate times, as loud as Size, and ahead of them the one that begins a burst.
func heldSlow(m impl.Modem, points []impl.Point) []impl.Point {
	burst := slices.Repeat([]impl.Point{{X: 32 * m.Size}}, m.Rate)
	for _, p := range points {
		burst = append(burst, slices.Repeat([]impl.Point{{X: p.X * m.Size, Y: p.Y * m.Size}}, m.Rate)...)
	}
	return burst
}

// sendWordSlow sends any word, also one that is hurt.
func sendWordSlow(m impl.Modem, word []byte) []impl.Point {
	return heldSlow(m, mapSlow(m.Width, bitsOnWay(m, word)))
}

func sendSlow(m impl.Modem, data []byte) []impl.Point {
	return sendWordSlow(m, codeSlow(data, m.Mend))
}

func airSlow(burst []impl.Point, delay, quarter int, noise []impl.Point) []impl.Point {
	told := append(make([]impl.Point, delay), quarterTurns(burst, quarter)...)
	for at := range noise {
		told[at] = impl.Point{X: told[at].X + noise[at].X, Y: told[at].Y + noise[at].Y}
	}
	return told
}

// nearestSlow goes down from above the quotient to the first number that is not more than half beyond it.
func nearestSlow(a, b int) int {
	q := a/b + 2
	for 2*b*q > 2*a+b {
		q--
	}
	return q
}

func sizeSlow(x int) int { return max(x, -x) }

func sumSlow(points []impl.Point) (int, int) {
	x, y := 0, 0
	for _, p := range points {
		x, y = x+p.X, y+p.Y
	}
	return x, y
}

func quarterSlow(x, y int) int {
	if sizeSlow(x) >= sizeSlow(y) {
		if x > 0 {
			return 0
		}
		return 2
	}
	if y > 0 {
		return 1
	}
	return 3
}

func symbolCount(m impl.Modem, n int) int { return (8*(n+2*m.Mend) + m.Width - 1) / m.Width }

// symbolsSlow are what the Points of a burst come to, ahead of deciding.
func symbolsSlow(m impl.Modem, burst []impl.Point, n int) ([]impl.Point, bool) {
	from := 0
	for from < len(burst) && sizeSlow(burst[from].X) <= 16*m.Size && sizeSlow(burst[from].Y) <= 16*m.Size {
		from++
	}
	if len(burst)-from < m.Rate*(1+symbolCount(m, n)) {
		return nil, false
	}
	x, y := sumSlow(burst[from : from+m.Rate])
	back := 4 - quarterSlow(x, y)
	symbols := []impl.Point{}
	for at := range symbolCount(m, n) {
		x, y := sumSlow(quarterTurns(burst[from+m.Rate*(at+1):from+m.Rate*(at+2)], back))
		symbols = append(symbols, impl.Point{X: nearestSlow(x, m.Rate*m.Size), Y: nearestSlow(y, m.Rate*m.Size)})
	}
	return symbols, true
}

func hearSlow(m impl.Modem, burst []impl.Point, n int) ([]byte, int, bool) {
	symbols, ok := symbolsSlow(m, burst, n)
	if !ok {
		return nil, 0, false
	}
	bits := decideSlow(m.Width, symbols)[:8*(n+2*m.Mend)]
	word, far, ok := mendSlow(pack8Slow(unweaveSlow(stirSlow(bits, 46080, m.Seed), m.Rows)), m.Mend)
	if !ok {
		return nil, 0, false
	}
	return word[:n], far, true
}

// manyModems are of each Width, with Mend, Rows, Rate and Size at their ends and between.
func manyModems() []impl.Modem {
	g := formSource(1801)
	list := []impl.Modem{}
	for _, width := range pointWidths {
		for _, mend := range []int{1, 3, maxMend} {
			for _, rows := range []int{1, 3, 8, maxWoven} {
				for _, loud := range [][2]int{{1, 1}, {maxHeld, maxSize}, {3, 2}, {2, 11}} {
					list = append(list, impl.Modem{Width: width, Mend: mend, Rows: rows, Seed: 1 + int(g.next()%maxTurn), Rate: loud[0], Size: loud[1]})
				}
			}
		}
	}
	return list
}

// fewModems are one of each Width, and some at the ends of all that they have.
func fewModems() []impl.Modem {
	return []impl.Modem{
		{Width: 2, Mend: 4, Rows: 4, Seed: 99, Rate: 2, Size: 11}, {Width: 4, Mend: 8, Rows: 8, Seed: 0xACE1, Rate: 3, Size: 2}, {Width: 6, Mend: 7, Rows: 5, Seed: 7, Rate: 1, Size: 100}, {Width: 8, Mend: 8, Rows: 16, Seed: 40000, Rate: 4, Size: 3},
		{Width: 2, Mend: 1, Rows: 1, Seed: 1, Rate: 1, Size: 1}, {Width: 8, Mend: maxMend, Rows: maxWoven, Seed: maxTurn, Rate: maxHeld, Size: maxSize},
	}
}

// noModems have one field each that is past its end, and the others as they may be.
func noModems() []impl.Modem {
	list := []impl.Modem{{}}
	add := func(numbers []int, set func(m *impl.Modem, x int)) {
		for _, x := range numbers {
			m := impl.Modem{Width: 4, Mend: 4, Rows: 4, Seed: 99, Rate: 2, Size: 11}
			set(&m, x)
			list = append(list, m)
		}
	}
	few := func(most int) []int { return append(beyond(most), 0, -1, -most) }
	add(noPointWidths, func(m *impl.Modem, x int) { m.Width = x })
	add(noMends, func(m *impl.Modem, x int) { m.Mend = x })
	add(few(maxWoven), func(m *impl.Modem, x int) { m.Rows = x })
	add(append(few(maxTurn), noTurns...), func(m *impl.Modem, x int) { m.Seed = x })
	add(few(maxHeld), func(m *impl.Modem, x int) { m.Rate = x })
	add(few(maxSize), func(m *impl.Modem, x int) { m.Size = x })
	return list
}

func (g *formSource) points(most, count int) []impl.Point {
	list := []impl.Point{}
	for range count {
		list = append(list, impl.Point{X: g.within(most), Y: g.within(most)})
	}
	return list
}

func sent(t *testing.T, m impl.Modem, data []byte) []impl.Point {
	t.Helper()
	burst, ok := impl.Send(m, data)
	if !ok {
		t.Fatalf("Send by %v of %v is refused", m, data)
	}
	return burst
}

func onAir(t *testing.T, burst []impl.Point, delay, quarter int, noise []impl.Point) []impl.Point {
	t.Helper()
	told, ok := impl.Air(burst, delay, quarter, noise)
	if !ok {
		t.Fatalf("Air of %d Points behind %d, turned by %d, with %d of noise is refused", len(burst), delay, quarter, len(noise))
	}
	return told
}

func holdHeard(t *testing.T, what string, got []byte, mended int, ok bool, want []byte, wantMended int) {
	t.Helper()
	if !ok || !slices.Equal(got, want) || mended != wantMended {
		t.Errorf("%s is %v, %d mended, %v, not %v, %d mended", what, got, mended, ok, want, wantMended)
	}
}

func noHearing(t *testing.T, what string, m impl.Modem, burst []impl.Point, n int) {
	t.Helper()
	if got, mended, ok := impl.Hear(m, burst, n); ok || len(got) != 0 || mended != 0 {
		t.Errorf("Hear by %v of %s is not refused: %v, %d mended, %v", m, what, got, mended, ok)
	}
}

func hears(t *testing.T, what string, m impl.Modem, burst []impl.Point, want []byte, wantMended int) {
	t.Helper()
	got, mended, ok := impl.Hear(m, burst, len(want))
	holdHeard(t, "Hear of "+what, got, mended, ok, want, wantMended)
}

// hearHolds wants the same as the oracle, also where that refuses.
func hearHolds(t *testing.T, what string, m impl.Modem, burst []impl.Point, n int) {
	t.Helper()
	want, mended, ok := hearSlow(m, burst, n)
	if !ok {
		noHearing(t, what, m, burst, n)
		return
	}
	hears(t, what, m, burst, want, mended)
}
