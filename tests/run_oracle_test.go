package tests

import (
	"math"
	"slices"
	"testing"

	"loop.example/g00043/impl"
)

// The oracle of runs fires nothing: the sample that a node gives at a place is worked out by itself, from those that lie ahead of it on the wires to it. How often each node fires is told by the oracle of nets.

const (
	maxTurns   = impl.MaxTurns
	maxGiven   = 1000000000000000
	maxPlayed  = 20000
	maxWorkers = 16
	maxRing    = 1000
)

// A playedPlan is a plan with what comes in; known are the samples that have been worked out.
type playedPlan struct {
	plan   impl.Plan
	inputs [][]int
	wires  []impl.Wire
	known  map[[2]int]int
}

func netOfPlan(p impl.Plan) blockNet { return blockNet{len(p.Nodes), wiringSlow(p)} }

func newPlayed(p impl.Plan, inputs [][]int) *playedPlan {
	return &playedPlan{p, inputs, wiringSlow(p), map[[2]int]int{}}
}

func nodesOf(p impl.Plan, kind int) []int {
	told := []int{}
	for at, n := range p.Nodes {
		if n.Kind == kind {
			told = append(told, at)
		}
	}
	return told
}

// on is the sample at a place of a wire: ahead of what is given lie the noughts.
func (x *playedPlan) on(wire, at int) int {
	if at < x.wires[wire].Have {
		return 0
	}
	return x.given(x.wires[wire].From, at-x.wires[wire].Have)
}

// takenFor are the samples of the n-th fire of a node, over each wire to it.
func (x *playedPlan) takenFor(node, n int) []int {
	told := []int{}
	for wire, w := range x.wires {
		if w.To != node {
			continue
		}
		for at := n * w.Take; at < (n+1)*w.Take; at++ {
			told = append(told, x.on(wire, at))
		}
	}
	return told
}

func (x *playedPlan) comesIn(node, at int) int {
	list := x.inputs[slices.Index(nodesOf(x.plan, impl.NodeIn), node)]
	if at >= len(list) {
		return 0
	}
	return list[at]
}

func (x *playedPlan) worked(node, at int) int {
	n := x.plan.Nodes[node]
	if n.Kind == impl.NodeUp {
		if at%n.N != 0 {
			return 0
		}
		return x.takenFor(node, at/n.N)[0]
	}
	taken := x.takenFor(node, at)
	switch n.Kind {
	case impl.NodeIn:
		return x.comesIn(node, at)
	case impl.NodeGain:
		return n.N * taken[0]
	case impl.NodeAdd, impl.NodeFold:
		sum := 0
		for _, y := range taken {
			sum += y
		}
		return sum
	}
	return taken[0]
}

func (x *playedPlan) given(node, at int) int {
	told, ok := x.known[[2]int{node, at}]
	if ok {
		return told
	}
	told = x.worked(node, at)
	if told > maxGiven || told < -maxGiven {
		told = 0
	}
	x.known[[2]int{node, at}] = told
	return told
}

func (x *playedPlan) givenIn(node, fires int) []int {
	count := fires
	if x.plan.Nodes[node].Kind == impl.NodeUp {
		count *= x.plan.Nodes[node].N
	}
	told := []int{}
	for at := range count {
		told = append(told, x.given(node, at))
	}
	return told
}

func (x *playedPlan) rows(fires []int) [][]int {
	told := [][]int{}
	for _, node := range nodesOf(x.plan, impl.NodeOut) {
		told = append(told, x.givenIn(node, fires[node]))
	}
	return told
}

func (x *playedPlan) counts(fires []int) []impl.Count {
	told := []impl.Count{}
	for node, n := range x.plan.Nodes {
		count := impl.Count{Fires: fires[node], Given: fires[node]}
		switch n.Kind {
		case impl.NodeOut:
			count.Given = 0
		case impl.NodeUp:
			count.Given *= n.N
		}
		told = append(told, count)
	}
	return told
}

func inputsFit(p impl.Plan, inputs [][]int) bool {
	for _, list := range inputs {
		if len(list) > maxSignal || slices.ContainsFunc(list, func(x int) bool { return x > maxSample || x < -maxSample }) {
			return false
		}
	}
	return len(inputs) == len(nodesOf(p, impl.NodeIn))
}

// firesSlow is how often each node fires in so many rounds.
func firesSlow(p impl.Plan, rounds int) ([]int, bool) {
	if !planIsRight(p) || rounds < 0 || rounds > maxTurns {
		return nil, false
	}
	b := netOfPlan(p)
	if _, ok := b.lineSlow(); !ok {
		return nil, false
	}
	fires, _ := b.balanceSlow()
	sum := 0
	for node := range fires {
		fires[node] *= rounds
		sum += fires[node]
	}
	return fires, sum <= maxPlayed
}

func playSlow(p impl.Plan, inputs [][]int, rounds int) ([][]int, bool) {
	fires, ok := firesSlow(p, rounds)
	if !ok || !inputsFit(p, inputs) {
		return nil, false
	}
	return newPlayed(p, inputs).rows(fires), true
}

// firedOf is how often each of n nodes stands in an order.
func firedOf(n int, order []int) []int {
	told := make([]int, n)
	for _, node := range order {
		told[node]++
	}
	return told
}

func playBySlow(p impl.Plan, inputs [][]int, order []int) ([][]int, int) {
	if !planIsRight(p) || !inputsFit(p, inputs) || len(order) > maxFires {
		return nil, -2
	}
	_, code := netOfPlan(p).fireSlow(order)
	if code >= 0 {
		order = order[:code]
	}
	return newPlayed(p, inputs).rows(firedOf(len(p.Nodes), order)), code
}

// droppedSlow lays sample by sample into cells that are there, and takes them one by one.
func droppedSlow(capacity int, gives, takes []int) (int, int) {
	cells, dropped, gaps := []bool{}, 0, 0
	for at := range gives {
		for range gives[at] {
			if len(cells) == capacity {
				dropped++
				continue
			}
			cells = append(cells, true)
		}
		for range takes[at] {
			if len(cells) == 0 {
				gaps++
				continue
			}
			cells = cells[1:]
		}
	}
	return dropped, gaps
}

func holdBy(t *testing.T, what string, got [][]int, code int, want [][]int, wantCode int) {
	t.Helper()
	if code != wantCode || !slices.EqualFunc(got, want, slices.Equal[[]int]) {
		t.Errorf("%s is %v with %d, not %v with %d", what, got, code, want, wantCode)
	}
}

func playByHolds(t *testing.T, p impl.Plan, inputs [][]int, order []int) {
	t.Helper()
	got, code := impl.PlayBy(p, inputs, order)
	want, wantCode := playBySlow(p, inputs, order)
	holdBy(t, "PlayBy", got, code, want, wantCode)
}

func noCounts(t *testing.T, p impl.Plan, rounds, workers int) {
	t.Helper()
	if got, ok := impl.Tally(p, rounds, workers); ok || len(got) != 0 {
		t.Errorf("Tally of %v, %d rounds and %d workers is not refused: %v %v", p, rounds, workers, got, ok)
	}
}

// noRun wants a run refused by all.
func noRun(t *testing.T, what string, p impl.Plan, inputs [][]int, rounds int) {
	t.Helper()
	got, ok := impl.Play(p, inputs, rounds)
	noRows(t, "Play of "+what, got, ok)
	for _, workers := range []int{1, 3, maxWorkers} {
		got, ok = impl.PlayMany(p, inputs, rounds, workers)
		noRows(t, "PlayMany of "+what, got, ok)
	}
	for node := range p.Nodes {
		list, ok := impl.Probe(p, inputs, rounds, node)
		noSignal(t, "Probe of "+what, list, ok)
	}
}

// runHolds asks all that goes through so many rounds.
func runHolds(t *testing.T, p impl.Plan, inputs [][]int, rounds, workers int) {
	t.Helper()
	fires, ok := firesSlow(p, rounds)
	if !ok {
		noRun(t, "what does not run", p, inputs, rounds)
		noCounts(t, p, rounds, workers)
		return
	}
	x := newPlayed(p, inputs)
	want := x.rows(fires)
	got, ok := impl.Play(p, inputs, rounds)
	holdRows(t, "Play", got, ok, want)
	got, ok = impl.PlayMany(p, inputs, rounds, workers)
	holdRows(t, "PlayMany", got, ok, want)
	for node := range p.Nodes {
		list, ok := impl.Probe(p, inputs, rounds, node)
		holdSignal(t, "Probe", list, ok, x.givenIn(node, fires[node]))
	}
	counts, ok := impl.Tally(p, rounds, workers)
	if wanted := x.counts(fires); !ok || !slices.Equal(counts, wanted) {
		t.Errorf("Tally of %v is %v %v, not %v", p, counts, ok, wanted)
	}
}

// A planMaker fits each node to those that are there, so that there is a balance; gives has how many samples each gives in a round, 0 of a NodeOut.
type planMaker struct {
	*formSource
	plan  impl.Plan
	gives []int
}

func (m *planMaker) lay(kind, n, gives int, from ...int) {
	at := len(m.plan.Nodes)
	m.plan.Nodes = append(m.plan.Nodes, impl.Node{Name: m.name(9) + string(rune('a'+at)), Kind: kind, N: n})
	m.gives = append(m.gives, gives)
	for _, other := range from {
		m.plan.Links = append(m.plan.Links, linked(other, at))
	}
}

// giving is a node that gives so many samples, often the last one; any number of them when it is 0.
func (m *planMaker) giving(count int) int {
	for at := len(m.gives) - 1; at >= 0 && m.below(3) > 0; at-- {
		if m.gives[at] > 0 && (count == 0 || m.gives[at] == count) {
			return at
		}
	}
	for {
		node := m.below(len(m.gives))
		if m.gives[node] > 0 && (count == 0 || m.gives[node] == count) {
			return node
		}
	}
}

// partOf is an N that divides a count.
func (m *planMaker) partOf(count int) int {
	for {
		n := 1 + m.below(min(64, count))
		if count%n == 0 {
			return n
		}
	}
}

func (m *planMaker) next(some []int) {
	kind, from := 1+m.below(8), m.giving(0)
	gives := m.gives[from]
	switch kind {
	case impl.NodeIn:
		m.lay(kind, 0, some[m.below(len(some))])
	case impl.NodeOut:
		m.lay(kind, 0, 0, from)
	case impl.NodeGain:
		m.lay(kind, []int{0, 1, -1, 2, -3, 1000, -1000, m.within(1000)}[m.below(8)], gives, from)
	case impl.NodeAdd:
		m.lay(kind, 0, gives, from, m.giving(gives))
	case impl.NodeDelay:
		if m.below(2) == 0 {
			m.lay(kind, []int{1, 2, 5, 64}[m.below(4)], gives)
			return
		}
		m.lay(kind, 1+m.below(64), gives, from)
	case impl.NodeUp:
		n := 1 + m.below(min(64, max(1, 130/gives)))
		m.lay(kind, n, gives*n, from)
	default:
		n := m.partOf(gives)
		m.lay(kind, n, gives/n, from)
	}
}

// mixed has the nodes, and the links, in another order.
func (g *formSource) mixed(p impl.Plan) impl.Plan {
	places := counted(len(p.Nodes))
	for at := range places {
		other := g.below(at + 1)
		places[at], places[other] = places[other], places[at]
	}
	told := planOf(make([]impl.Node, len(p.Nodes)))
	for at, n := range p.Nodes {
		told.Nodes[places[at]] = n
	}
	for at, l := range p.Links {
		told.Links = append(told.Links, linked(places[l.From], places[l.To]))
		other := g.below(at + 1)
		told.Links[at], told.Links[other] = told.Links[other], told.Links[at]
	}
	return told
}

// runPlan has a balance; a NodeDelay without a link is linked in the end, so that wires come back.
func (g *formSource) runPlan(count int, some []int) impl.Plan {
	m := &planMaker{formSource: g}
	m.lay(impl.NodeIn, 0, some[g.below(len(some))])
	for len(m.plan.Nodes) < count {
		m.next(some)
	}
	p := m.plan
	for at, n := range p.Nodes {
		if n.Kind == impl.NodeDelay && !slices.ContainsFunc(p.Links, func(l impl.Link) bool { return l.To == at }) {
			p.Links = append(p.Links, linked(m.giving(m.gives[at]), at))
		}
	}
	return g.mixed(p)
}

// loopPlan goes around over blocks of a size, for which the noughts of its NodeDelay are enough, or hardly not.
func (g *formSource) loopPlan(size int) impl.Plan {
	nodes := append(sources(1), impl.Node{Name: "sum", Kind: impl.NodeAdd}, impl.Node{Name: "few", Kind: impl.NodeDown + g.below(2), N: size}, impl.Node{Name: "gain", Kind: impl.NodeGain, N: g.within(3)},
		impl.Node{Name: "many", Kind: impl.NodeUp, N: size}, impl.Node{Name: "late", Kind: impl.NodeDelay, N: max(1, size-1+g.below(3))}, impl.Node{Name: "out", Kind: impl.NodeOut})
	return g.mixed(planOf(nodes, linked(0, 1), linked(1, 2), linked(2, 3), linked(3, 4), linked(4, 5), linked(5, 1), linked(g.below(6), 6)))
}

func (g *formSource) inputs(p impl.Plan, most int) [][]int {
	told := [][]int{}
	for range nodesOf(p, impl.NodeIn) {
		told = append(told, g.signal(most, g.below(20)))
	}
	return told
}

// manyRuns have a balance; some of them are stuck.
func manyRuns(seed uint64, call func(g *formSource, p impl.Plan, inputs [][]int)) {
	g := formSource(seed)
	for range 8 {
		for _, some := range [][]int{{1}, {1, 2, 3}, {2, 4, 6, 12}, {1, 5, 8, 64}} {
			for _, count := range []int{1, 2, 3, 5, 8, 13, maxNodes} {
				p := g.runPlan(count, some)
				call(&g, p, g.inputs(p, []int{9, maxSample}[g.below(2)]))
			}
		}
		for size := range 7 {
			p := g.loopPlan(1 + size)
			call(&g, p, g.inputs(p, 9))
		}
	}
}

// anyWorkers are so many that are none, at the limits and far away.
func anyWorkers() []int {
	return []int{0, -1, maxWorkers + 1, maxWorkers + 2, 64, 1 << 32, 1<<32 + 1, 1 - 1<<32, math.MaxInt, math.MinInt, math.MinInt + 1}
}
