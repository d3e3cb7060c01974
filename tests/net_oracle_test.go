package tests

import (
	"maps"
	"math"
	"slices"
	"testing"

	"loop.example/g00043/impl"
)

// The oracle of nets: a balance is searched by trying one number after the other for the first block of a part; what lies on a wire is counted from how often its two ends have fired; how long a round takes is told by a clock that goes on from one ending to the next, without any line.

const (
	maxBlocks = impl.MaxBlocks
	maxWires  = impl.MaxWires
	maxGive   = impl.MaxGive
	maxFires  = impl.MaxFires
	maxHave   = 1000
	maxCost   = 1000
)

type blockNet struct {
	n     int
	wires []impl.Wire
}

// wired is a wire on which nothing lies.
func wired(from, to, give, take int) impl.Wire {
	return impl.Wire{From: from, To: to, Give: give, Take: take}
}

// laden is a wire on which something lies.
func laden(from, to, give, take, have int) impl.Wire {
	return impl.Wire{From: from, To: to, Give: give, Take: take, Have: have}
}

func netOf(n int, wires ...impl.Wire) blockNet { return blockNet{n, wires} }

func (b blockNet) havings() []int {
	told := []int{}
	for _, w := range b.wires {
		told = append(told, w.Have)
	}
	return told
}

// across is what a block fires when its neighbour over a wire fires so often; 0 when that is no number that a round has.
func across(neighbour, neighbours, own int) int {
	if neighbour*neighbours%own != 0 || neighbour*neighbours/own > maxFires {
		return 0
	}
	return neighbour * neighbours / own
}

// partFrom has of each block of a part how often it fires when the first one fires so often.
func (b blockNet) partFrom(first, times int) (map[int]int, bool) {
	known := map[int]int{first: times}
	for {
		ahead := len(known)
		for _, w := range b.wires {
			switch from, to := known[w.From], known[w.To]; {
			case from > 0 && to > 0 && from*w.Give != to*w.Take:
				return nil, false
			case from > 0 && to == 0:
				known[w.To] = across(from, w.Give, w.Take)
				to = known[w.To]
				if to == 0 {
					return nil, false
				}
			case to > 0 && from == 0:
				known[w.From] = across(to, w.Take, w.Give)
				if known[w.From] == 0 {
					return nil, false
				}
			}
		}
		if len(known) == ahead {
			return known, true
		}
	}
}

func (b blockNet) leastPart(first int) (map[int]int, bool) {
	for times := 1; times <= maxFires; times++ {
		if part, ok := b.partFrom(first, times); ok {
			return part, true
		}
	}
	return nil, false
}

func (b blockNet) balanceSlow() ([]int, bool) {
	all := map[int]int{}
	for block := range b.n {
		if all[block] > 0 {
			continue
		}
		part, ok := b.leastPart(block)
		if !ok {
			return nil, false
		}
		maps.Copy(all, part)
	}
	fires, sum := []int{}, 0
	for block := range b.n {
		fires = append(fires, all[block])
		sum += all[block]
	}
	return fires, sum <= maxFires
}

// lying is what lies on each wire when blocks have fired so often.
func (b blockNet) lying(counts []int) []int {
	told := []int{}
	for _, w := range b.wires {
		told = append(told, w.Have+counts[w.From]*w.Give-counts[w.To]*w.Take)
	}
	return told
}

func (b blockNet) mayFire(counts []int, block int) bool {
	if block < 0 || block >= b.n {
		return false
	}
	for at, lies := range b.lying(counts) {
		if b.wires[at].To == block && lies < b.wires[at].Take {
			return false
		}
	}
	return true
}

func (b blockNet) fireSlow(order []int) ([]int, int) {
	counts := make([]int, b.n)
	for at, block := range order {
		if !b.mayFire(counts, block) {
			return b.lying(counts), at
		}
		counts[block]++
	}
	return b.lying(counts), -1
}

// readySlow are the blocks that can fire and have not fired that often.
func (b blockNet) readySlow(counts, fires []int) []int {
	told := []int{}
	for block := range b.n {
		if counts[block] < fires[block] && b.mayFire(counts, block) {
			told = append(told, block)
		}
	}
	return told
}

// roundSlow lets pick take of the blocks that can fire those that fire at once.
func (b blockNet) roundSlow(pick func(ready []int) []int) ([][]int, bool) {
	fires, ok := b.balanceSlow()
	if !ok {
		return nil, false
	}
	counts, waves := make([]int, b.n), [][]int{}
	for !slices.Equal(counts, fires) {
		ready := b.readySlow(counts, fires)
		if len(ready) == 0 {
			return nil, false
		}
		wave := pick(ready)
		for _, block := range wave {
			counts[block]++
		}
		waves = append(waves, wave)
	}
	return waves, true
}

func firstAlone(ready []int) []int { return ready[:1] }

func (b blockNet) lineSlow() ([]int, bool) {
	waves, ok := b.roundSlow(firstAlone)
	return slices.Concat(waves...), ok
}

func (b blockNet) wavesSlow() ([][]int, bool) {
	return b.roundSlow(func(ready []int) []int { return ready })
}

func (b blockNet) roomSlow(order []int) []int {
	most := b.havings()
	for at := range order {
		lies, _ := b.fireSlow(order[:at+1])
		for wire := range most {
			most[wire] = max(most[wire], lies[wire])
		}
	}
	return most
}

// A netClock has on each wire what has been given and not been taken by now, and of each block what its worker is at.
type netClock struct {
	net   blockNet
	costs []int
	left  []int
	lies  []int
	busy  []bool
	until []int
}

func newClock(b blockNet, costs []int) *netClock {
	fires, _ := b.balanceSlow()
	return &netClock{b, costs, fires, b.havings(), make([]bool, b.n), make([]int, b.n)}
}

// ends is whether a worker has ended by now: what it gives is there then.
func (c *netClock) ends(block, now int) bool {
	if !c.busy[block] || c.until[block] > now {
		return false
	}
	c.busy[block] = false
	for at, w := range c.net.wires {
		if w.From == block {
			c.lies[at] += w.Give
		}
	}
	return true
}

func (c *netClock) begins(block, now int) bool {
	if c.busy[block] || c.left[block] == 0 {
		return false
	}
	for at, w := range c.net.wires {
		if w.To == block && c.lies[at] < w.Take {
			return false
		}
	}
	for at, w := range c.net.wires {
		if w.To == block {
			c.lies[at] -= w.Take
		}
	}
	c.left[block]--
	c.busy[block], c.until[block] = true, now+c.costs[block]
	return true
}

// latencySlow lets the highest block go first, so that nothing hangs on the order of a line.
func (b blockNet) latencySlow(costs []int) int {
	c := newClock(b, costs)
	for now := 0; ; {
		for moved := true; moved; {
			moved = false
			for block := b.n - 1; block >= 0; block-- {
				moved = c.ends(block, now) || moved
				moved = c.begins(block, now) || moved
			}
		}
		next := math.MaxInt
		for block := range b.n {
			if c.busy[block] {
				next = min(next, c.until[block])
			}
		}
		if next == math.MaxInt {
			return now
		}
		now = next
	}
}

func okIs(t *testing.T, b blockNet, want bool) {
	t.Helper()
	if got := impl.WiresOk(b.n, b.wires); got != want {
		t.Errorf("WiresOk of %v is %v", b, got)
	}
}

func holdFires(t *testing.T, what string, lies []int, code int, want []int, wantCode int) {
	t.Helper()
	if !slices.Equal(lies, want) || code != wantCode {
		t.Errorf("%s is %v with %d, not %v with %d", what, lies, code, want, wantCode)
	}
}

func holdLatency(t *testing.T, what string, took int, ok bool, want int, of ...any) {
	t.Helper()
	if !ok || took != want {
		t.Errorf("%s of %v is %d %v, not %d", what, of, took, ok, want)
	}
}

func noLatency(t *testing.T, what string, b blockNet, costs []int) {
	t.Helper()
	if took, ok := impl.Latency(b.n, b.wires, costs); ok || took != 0 {
		t.Errorf("Latency of %s is not refused: %d, %v", what, took, ok)
	}
}

// holdOr wants that list, or a refusal where there is none.
func holdOr(t *testing.T, what string, got []int, ok bool, want []int, wantOk bool) {
	t.Helper()
	if wantOk {
		holdSignal(t, what, got, ok, want)
	} else {
		noSignal(t, what, got, ok)
	}
}

func balanceHolds(t *testing.T, b blockNet) {
	t.Helper()
	got, ok := impl.Balance(b.n, b.wires)
	want, wantOk := b.balanceSlow()
	holdOr(t, "Balance", got, ok, want, wantOk)
}

func fireHolds(t *testing.T, b blockNet, order []int) {
	t.Helper()
	lies, code := impl.Fire(b.n, b.wires, order)
	want, wantCode := b.fireSlow(order)
	holdFires(t, "Fire", lies, code, want, wantCode)
}

func roomHolds(t *testing.T, b blockNet, order []int) {
	t.Helper()
	got, ok := impl.Room(b.n, b.wires, order)
	_, code := b.fireSlow(order)
	if code != -1 {
		noSignal(t, "Room", got, ok)
		return
	}
	holdSignal(t, "Room", got, ok, b.roomSlow(order))
}

func lineHolds(t *testing.T, b blockNet) {
	t.Helper()
	got, ok := impl.Line(b.n, b.wires)
	want, wantOk := b.lineSlow()
	holdOr(t, "Line", got, ok, want, wantOk)
}

func wavesHold(t *testing.T, b blockNet) {
	t.Helper()
	got, ok := impl.Waves(b.n, b.wires)
	if want, wantOk := b.wavesSlow(); wantOk {
		holdRows(t, "Waves", got, ok, want)
	} else {
		noRows(t, "Waves", got, ok)
	}
}

func latencyHolds(t *testing.T, b blockNet, costs []int) {
	t.Helper()
	if _, ok := b.lineSlow(); !ok {
		noLatency(t, "a net without a line", b, costs)
		return
	}
	took, ok := impl.Latency(b.n, b.wires, costs)
	holdLatency(t, "Latency", took, ok, b.latencySlow(costs), b, costs)
}

// below gives a number of 0 .. n - 1.
func (g *formSource) below(n int) int { return int(g.next() % uint64(n)) }

// wireBetween fits how often both its ends fire.
func (g *formSource) wireBetween(fires []int, from, to int) impl.Wire {
	common := 1
	for d := 2; d <= min(fires[from], fires[to]); d++ {
		if fires[from]%d == 0 && fires[to]%d == 0 {
			common = d
		}
	}
	give, take := fires[to]/common, fires[from]/common
	times := 1 + g.below(max(1, min(3, maxGive/max(give, take))))
	return wired(from, to, give*times, take*times)
}

// net gives a net that has a balance: blocks fire as often as one of those numbers, or a part of them.
func (g *formSource) net(n, count int, some []int) blockNet {
	b, fires := blockNet{n: n}, g.of(some, n)
	for range count {
		b.wires = append(b.wires, g.wireBetween(fires, g.below(n), g.below(n)))
	}
	return b
}

// laidOut lets something lie on the wires: nothing, a little, what a round takes, that only where a wire comes back, or much.
func (g *formSource) laidOut(b blockNet, kind int) blockNet {
	fires, _ := b.balanceSlow()
	b.wires = slices.Clone(b.wires)
	for at := range b.wires {
		w := &b.wires[at]
		whole := min(maxHave, fires[w.To]*w.Take)
		switch {
		case kind == 1:
			w.Have = g.below(2*w.Take + 1)
		case kind == 2 || kind == 3 && w.From >= w.To:
			w.Have = whole
		case kind == 4 && w.From >= w.To:
			w.Have = max(0, whole-g.below(3))
		case kind == 5:
			w.Have = g.below(maxHave + 1)
		}
	}
	return b
}

// manyNets have a balance; many of them are stuck.
func manyNets(seed uint64, call func(g *formSource, b blockNet)) {
	g := formSource(seed)
	for _, some := range [][]int{{1}, {1, 2, 3}, {2, 4, 6, 12}, {1, 5, 7, 35}, {8, 9, 10, 60}} {
		for _, n := range []int{1, 2, 3, 5, 8, maxBlocks} {
			for _, count := range []int{0, 1, n - 1, n + 1, 2 * n} {
				for kind := range 6 {
					call(&g, g.laidOut(g.net(n, count, some), kind))
				}
			}
		}
	}
}

// fewNets go through a round.
func fewNets() []blockNet {
	return []blockNet{
		netOf(1), netOf(4), netOf(maxBlocks), netOf(3, wired(0, 1, 2, 3), wired(1, 2, 1, 2)), netOf(3, wired(2, 1, 2, 3), laden(1, 0, 1, 2, 1)),
		netOf(2, wired(0, 1, 1, 1), laden(1, 0, 1, 1, 1)), netOf(2, wired(0, 1, 2, 3), laden(1, 0, 3, 2, 4), laden(0, 0, 7, 7, 9)), netOf(5, wired(4, 0, 6, 4), laden(2, 1, 1, 3, 500), wired(4, 0, 3, 2)),
		netOf(4, wired(0, 1, 5, 1), wired(0, 2, 1, 2), wired(1, 3, 1, 10), wired(2, 3, 1, 1), laden(3, 0, 2, 1, 2)),
	}
}

// noNets are wires that are none, the fault in the first, in the last one, or between.
func noNets() []blockNet {
	good := laden(0, 2, 1, 1, 1)
	nets := []blockNet{{0, nil}, {-1, nil}, {maxBlocks + 1, nil}, {math.MaxInt, nil}, {math.MinInt, nil}, {1 << 32, nil}, {1<<32 + 3, nil}, {0, []impl.Wire{{Give: 1, Take: 1}}}, {2, []impl.Wire{good}}, {3, slices.Repeat([]impl.Wire{good}, maxWires+1)}, {3, slices.Repeat([]impl.Wire{good}, 2*maxWires)}, {3, make([]impl.Wire, maxWires+1)}}
	for _, w := range wrongWires(3) {
		nets = append(nets, netOf(3, w), netOf(3, w, good), netOf(3, good, w, good), netOf(3, append(slices.Repeat([]impl.Wire{good}, maxWires-1), w)...))
	}
	return nets
}

// wrongWires have one number that is not so.
func wrongWires(n int) []impl.Wire {
	wrong := []impl.Wire{{}}
	far := []int{-1, -2, 1 << 32, 1<<32 + 1, 1 - 1<<32, math.MaxInt, math.MinInt, math.MinInt + 1}
	for _, x := range append(slices.Clone(far), n, n+1, 256) {
		wrong = append(wrong, laden(x, 1, 1, 1, 1), laden(1, x, 1, 1, 1), laden(x, x, 1, 1, 1))
	}
	for _, x := range append(slices.Clone(far), 0, maxGive+1, maxGive+2, 256) {
		wrong = append(wrong, laden(0, 1, x, 1, 1), laden(0, 1, 1, x, 1), laden(1, 1, x, x, 1))
	}
	for _, x := range append(slices.Clone(far), maxHave+1, maxHave+2) {
		wrong = append(wrong, laden(0, 1, 1, 1, x), laden(2, 2, 1, 1, x))
	}
	return wrong
}
