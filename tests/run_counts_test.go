package tests

import (
	"math"
	"slices"
	"testing"

	"loop.example/g00043/impl"
)

func tallies(t *testing.T, p impl.Plan, rounds int, want ...impl.Count) {
	t.Helper()
	for _, workers := range []int{1, 2, maxWorkers} {
		if got, ok := impl.Tally(p, rounds, workers); !ok || !slices.Equal(got, want) {
			t.Errorf("Tally of %v by %d workers is %v %v, not %v", p, workers, got, ok, want)
		}
	}
	runHolds(t, p, quiet(p), rounds, 5)
}

func fired(fires, given int) impl.Count { return impl.Count{Fires: fires, Given: given} }

func TestTallyOfKinds(t *testing.T) {
	tallies(t, between(impl.NodeGain, 0), 3, fired(3, 3), fired(3, 3), fired(3, 0))
	tallies(t, between(impl.NodeAdd, 0), 3, fired(3, 3), fired(3, 3), fired(3, 0))
	tallies(t, between(impl.NodeDelay, 64), 3, fired(3, 3), fired(3, 3), fired(3, 0))
	tallies(t, between(impl.NodeUp, 1), 3, fired(3, 3), fired(3, 3), fired(3, 0))
	tallies(t, between(impl.NodeUp, 5), 3, fired(3, 3), fired(3, 15), fired(15, 0))
	tallies(t, between(impl.NodeUp, 64), 2, fired(2, 2), fired(2, 128), fired(128, 0))
	tallies(t, between(impl.NodeDown, 5), 3, fired(15, 15), fired(3, 3), fired(3, 0))
	tallies(t, between(impl.NodeFold, 64), 2, fired(128, 128), fired(2, 2), fired(2, 0))
	tallies(t, planOf(sources(2)), 4, fired(4, 4), fired(4, 4))
	tallies(t, row(impl.NodeUp, 2, impl.NodeFold, 3), 1, fired(3, 6), fired(2, 2), fired(3, 3))
}

// Each sample counts once, however many wires go out: none, one or several.
func TestTallyOfSeveralWires(t *testing.T) {
	for wires := range 9 {
		p := wideRun(3, wires, 1)
		want := []impl.Count{fired(2, 2), fired(2, 2), fired(2, 6)}
		tallies(t, p, 2, append(want, slices.Repeat([]impl.Count{fired(6, 0)}, wires)...)...)
	}
	tallies(t, planTold(t, "node a in", "node s add", "node d delay 1", "link a -> s", "link a -> s", "link d -> d"), 5, fired(5, 5), fired(5, 5), fired(5, 5))
}

func TestTallyOfRounds(t *testing.T) {
	p := between(impl.NodeUp, 3)
	for _, rounds := range []int{0, 1, 2, maxTurns - 1, maxTurns} {
		tallies(t, p, rounds, fired(rounds, rounds), fired(rounds, 3*rounds), fired(3*rounds, 0))
	}
	for _, rounds := range []int{-1, maxTurns + 1, 1 << 32, math.MaxInt, math.MinInt} {
		for workers := range maxWorkers + 2 {
			noCounts(t, p, rounds, workers)
		}
	}
}

// A stuck plan, and what is none, has no counts, not even of no round.
func TestTallyOfWhatDoesNotRun(t *testing.T) {
	for _, p := range []impl.Plan{{}, adders(1), adders(maxNodes), planOf(sources(21)), planOf(between(impl.NodeGain, 1).Nodes), between(9, 0)} {
		for _, rounds := range []int{0, 1, maxTurns} {
			for _, workers := range []int{1, 2, maxWorkers} {
				noCounts(t, p, rounds, workers)
			}
		}
	}
}

func probes(t *testing.T, p impl.Plan, inputs [][]int, rounds, node int, want ...int) {
	t.Helper()
	got, ok := impl.Probe(p, inputs, rounds, node)
	holdSignal(t, "Probe by hand", got, ok, want)
	runHolds(t, p, inputs, rounds, 3)
}

func TestProbeOfKinds(t *testing.T) {
	in := [][]int{{5, 6, 7, 8}}
	probes(t, between(impl.NodeGain, -2), in, 3, 0, 5, 6, 7)
	probes(t, between(impl.NodeGain, -2), in, 3, 1, -10, -12, -14)
	probes(t, between(impl.NodeGain, -2), in, 3, 2, -10, -12, -14)
	probes(t, between(impl.NodeGain, -2), in, 6, 0, 5, 6, 7, 8, 0, 0)
	probes(t, between(impl.NodeAdd, 0), in, 2, 1, 10, 12)
	probes(t, between(impl.NodeDelay, 2), in, 3, 1, 5, 6, 7)
	probes(t, between(impl.NodeDelay, 2), in, 3, 2, 0, 0, 5)
	probes(t, between(impl.NodeUp, 3), in, 2, 1, 5, 0, 0, 6, 0, 0)
	probes(t, between(impl.NodeDown, 2), in, 2, 1, 5, 7)
	probes(t, between(impl.NodeFold, 2), in, 2, 1, 11, 15)
	probes(t, between(impl.NodeFold, 2), in, 2, 0, 5, 6, 7, 8)
	for kind := impl.NodeGain; kind <= impl.NodeFold; kind++ {
		for node := range 3 {
			probes(t, between(kind, doorsSlow(kind)%2), in, 0, node)
		}
	}
}

// A node that nobody takes from gives, too; one with several wires gives once.
func TestProbeOfSeveralWires(t *testing.T) {
	probes(t, planOf(sources(2)), [][]int{{1}, {2, 3}}, 3, 1, 2, 3, 0)
	probes(t, through(impl.NodeUp, 2), [][]int{{1, 4}}, 2, 1, 1, 0, 4, 0)
	probes(t, wideRun(2, 5, 0), [][]int{{1, 4}}, 2, 1, 1, 0, 4, 0)
	probes(t, wideRun(2, 5, 0), [][]int{{1, 4}}, 2, 6, 1, 0, 4, 0)
}

func TestProbeOfNoNode(t *testing.T) {
	for _, p := range []impl.Plan{planOf(sources(1)), planOf(sources(maxNodes)), between(impl.NodeGain, 2)} {
		for _, node := range []int{-1, -2, len(p.Nodes), len(p.Nodes) + 1, 256, 1 << 32, 1<<32 + 1, 1 - 1<<32, math.MaxInt, math.MinInt} {
			for _, rounds := range []int{0, 1, -1} {
				got, ok := impl.Probe(p, quiet(p), rounds, node)
				noSignal(t, "Probe of no node", got, ok)
				got, ok = impl.Probe(p, append(quiet(p), nil), rounds, node)
				noSignal(t, "Probe of no node", got, ok)
			}
		}
		runHolds(t, p, quiet(p), 1, 1)
	}
	for _, node := range []int{-1, 0, 1} {
		got, ok := impl.Probe(impl.Plan{}, nil, 0, node)
		noSignal(t, "Probe of no plan", got, ok)
	}
}
