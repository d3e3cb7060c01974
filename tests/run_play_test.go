package tests

import (
	"math"
	"slices"
	"testing"

	"loop.example/g00043/impl"
)

// wideRun fires so often in a round: one NodeIn, one NodeUp, outs that fire n times each, and NodeIns that nobody takes from.
func wideRun(n, outs, others int) impl.Plan {
	nodes := append(sources(1+others), impl.Node{Name: "up", Kind: impl.NodeUp, N: n})
	links := []impl.Link{linked(0, 1+others)}
	for at := range outs {
		nodes = append(nodes, impl.Node{Name: "out" + string(rune('a'+at)), Kind: impl.NodeOut})
		links = append(links, linked(1+others, 2+others+at))
	}
	return planOf(nodes, links...)
}

// quiet are inputs without a sample.
func quiet(p impl.Plan) [][]int { return make([][]int, len(nodesOf(p, impl.NodeIn))) }

func runsSoOften(t *testing.T, p impl.Plan, rounds, want int) {
	t.Helper()
	counts, ok := impl.Tally(p, rounds, 2)
	sum := 0
	for _, c := range counts {
		sum += c.Fires
	}
	if !ok || sum != want {
		t.Errorf("%v fires %d times in %d rounds, %v, not %d times", p, sum, rounds, ok, want)
	}
	runHolds(t, p, quiet(p), rounds, 2)
}

func runsTooOften(t *testing.T, p impl.Plan, rounds int) {
	t.Helper()
	noRun(t, "too many fires", p, quiet(p), rounds)
	noCounts(t, p, rounds, 2)
	runHolds(t, p, quiet(p), rounds, 2)
}

func TestPlayCountsFires(t *testing.T) {
	p := wideRun(49, 8, 6)
	runsSoOften(t, p, 50, maxPlayed)
	runsTooOften(t, p, 51)
	runsTooOften(t, p, maxTurns)
	p = wideRun(56, 6, 1)
	runsSoOften(t, p, 58, 339*58)
	runsTooOften(t, p, 59)
	p = wideRun(60, 5, 10)
	runsSoOften(t, p, maxTurns, 312*64)
	runsTooOften(t, wideRun(60, 5, 11), maxTurns)
	runsSoOften(t, wideRun(60, 5, 11), 63, 313*63)
}

// The most that a round may fire, and one more, which is no balance.
func TestPlayOfMaxFiresARound(t *testing.T) {
	p := planTold(t, "node a in", "node u up 64", "node v up 30", "node o out", "link a -> u", "link u -> v", "link v -> o")
	for at := range 14 {
		p.Nodes = append(p.Nodes, impl.Node{Name: "more" + string(rune('a'+at)), Kind: impl.NodeIn})
	}
	runsSoOften(t, p, 10, maxPlayed)
	runsSoOften(t, p, 1, maxFires)
	runsTooOften(t, p, 11)
	p.Nodes = append(p.Nodes, impl.Node{Name: "last", Kind: impl.NodeIn})
	for _, rounds := range []int{0, 1, 9} {
		runsTooOften(t, p, rounds)
	}
}

func TestPlayOfRounds(t *testing.T) {
	p := between(impl.NodeGain, 2)
	in := [][]int{upTo(100)}
	for _, rounds := range []int{0, 1, 2, maxTurns - 1, maxTurns} {
		got, ok := impl.Play(p, in, rounds)
		if !ok || len(got) != 1 || len(got[0]) != rounds {
			t.Errorf("%d rounds tell %v %v", rounds, got, ok)
		}
		runHolds(t, p, in, rounds, 2)
	}
	for _, rounds := range []int{-1, -2, maxTurns + 1, maxTurns + 2, 100, 1 << 32, 1<<32 + 1, 1 << 62, math.MaxInt, math.MinInt, math.MinInt + 1} {
		noRun(t, "wrong rounds", p, in, rounds)
		noCounts(t, p, rounds, 2)
		noRun(t, "wrong rounds", wideRun(49, 8, 6), quiet(wideRun(49, 8, 6)), rounds)
	}
}

func TestPlayOfInputs(t *testing.T) {
	plans := []impl.Plan{planOf(sources(1)), planOf(sources(3)), between(impl.NodeUp, 2), wideRun(3, 2, 2), planTold(t, "node d delay 1", "node o out", "link d -> d", "link d -> o")}
	for _, p := range plans {
		count := len(nodesOf(p, impl.NodeIn))
		for have := range count + 3 {
			in := make([][]int, have)
			if have == count {
				runHolds(t, p, in, 2, 2)
				continue
			}
			noRun(t, "inputs that are not as many", p, in, 2)
			noRun(t, "inputs that are not as many", p, in, 0)
			for at := range in {
				in[at] = []int{1, 2}
			}
			noRun(t, "inputs that are not as many", p, in, 2)
		}
	}
}

// Each input is a signal, the first and the last one too.
func TestPlayOfInputsThatAreNoSignals(t *testing.T) {
	p := planOf(append(sources(3), impl.Node{Name: "o", Kind: impl.NodeOut}), linked(1, 3))
	for at := range 3 {
		for _, list := range noSignals() {
			in := [][]int{{1}, {2}, {3}}
			in[at] = list
			noRun(t, "an input that is no signal", p, in, 1)
			noRun(t, "an input that is no signal", p, in, 0)
			playByHolds(t, p, in, []int{1, 3})
			playByHolds(t, p, in, nil)
		}
		for _, list := range [][]int{nil, {}, make([]int, maxSignal), slices.Repeat([]int{-maxSample, maxSample}, maxSignal/2)} {
			in := [][]int{{1}, {2}, {3}}
			in[at] = list
			runHolds(t, p, in, 3, 2)
			playByHolds(t, p, in, []int{1, 3})
		}
	}
}

// Of MaxSignal samples the last one is told, and behind it noughts.
func TestPlayOfMaxSignal(t *testing.T) {
	p := planTold(t, "node a in", "node d down 9", "node o out", "link a -> d", "link d -> o")
	in := upTo(maxSignal)
	want := []int{}
	for at := 0; at < 9*maxTurns; at += 9 {
		want = append(want, append(in, make([]int, 100)...)[at])
	}
	tells(t, p, [][]int{in}, maxTurns, want)
	holdInt(t, "the last sample", want[56], 505)
	holdInt(t, "the one behind", want[57], 0)
}

func TestPlayOfNoPlan(t *testing.T) {
	in := between(impl.NodeGain, 2)
	for _, p := range []impl.Plan{{}, planOf(sources(21)), planOf(nil, linked(0, 0)), planOf(in.Nodes), planOf(in.Nodes, in.Links[0]), planOf(in.Nodes, slices.Repeat(in.Links, 2)...),
		between(9, 1), between(0, 0), between(impl.NodeGain, 1001), between(impl.NodeUp, 0), between(impl.NodeUp, 65), between(impl.NodeFold, -1), between(impl.NodeAdd, 1)} {
		for _, rounds := range []int{0, 1, -1} {
			noRun(t, "no plan", p, quiet(p), rounds)
			noRun(t, "no plan", p, nil, rounds)
			noCounts(t, p, rounds, 2)
		}
		playByHolds(t, p, quiet(p), nil)
		playByHolds(t, p, quiet(p), []int{0})
		playByHolds(t, p, nil, []int{-1})
	}
}

func TestPlayWithoutALine(t *testing.T) {
	plans := []impl.Plan{
		planTold(t, "node a in", "node u up 2", "node s add", "node o out", "link a -> u", "link a -> s", "link u -> s", "link s -> o"),
		planTold(t, "node g gain 1", "node o out", "link g -> g", "link g -> o"),
		planTold(t, "node s add", "node a in", "node o out", "link a -> s", "link s -> s", "link s -> o"),
		planTold(t, "node u up 2", "link u -> u"),
		planTold(t, "node d delay 3", "node f fold 4", "node u up 4", "link d -> f", "link f -> u", "link u -> d"),
		planTold(t, "node a in", "node u up 64", "node v up 64", "node o out", "link a -> u", "link u -> v", "link v -> o"),
	}
	for _, p := range plans {
		if _, ok := netOfPlan(p).lineSlow(); ok || !planIsRight(p) {
			t.Errorf("%v is no plan without a line", p)
		}
		for _, rounds := range []int{0, 1, 2, maxTurns, -1} {
			noRun(t, "no line", p, quiet(p), rounds)
			noCounts(t, p, rounds, 2)
		}
	}
}

// Nothing is told, and that is an answer.
func TestPlayWithoutANodeOut(t *testing.T) {
	for _, p := range []impl.Plan{planOf(sources(1)), planOf(sources(maxNodes)), through(impl.NodeGain, 5)} {
		p.Nodes = slices.Clone(p.Nodes)
		for at, n := range p.Nodes {
			if n.Kind == impl.NodeOut {
				p.Nodes[at] = impl.Node{Name: n.Name, Kind: impl.NodeGain, N: 1}
			}
		}
		tells(t, p, quiet(p), 3)
		toldBy(t, p, quiet(p), []int{0, 0}, -1)
		toldBy(t, p, quiet(p), []int{0, -1}, 1)
	}
}

func TestPlayOfLoops(t *testing.T) {
	p := planTold(t, "node a in", "node s add", "node d delay 1", "node o out", "link a -> s", "link d -> s", "link s -> d", "link s -> o")
	tells(t, p, [][]int{{1, 2, 3, 4}}, 6, []int{1, 3, 6, 10, 10, 10})
	p = planTold(t, "node a in", "node s add", "node d delay 2", "node g gain -2", "node o out", "link a -> s", "link g -> s", "link s -> d", "link d -> g", "link s -> o")
	tells(t, p, [][]int{{1, 10}}, 6, []int{1, 10, -2, -20, 4, 40})
	// A loop that goes over blocks of four needs as many noughts.
	for _, n := range []int{1, 3, 4, 5, 64} {
		p = planTold(t, "node a in", "node s add", "node f fold 4", "node u up 4", "node d delay 1", "node o out",
			"link a -> s", "link d -> s", "link s -> f", "link f -> u", "link u -> d", "link f -> o")
		p.Nodes[4].N = n
		runHolds(t, p, [][]int{{1, 2, 3, 4, 5, 6, 7, 8}}, 8, 2)
		if n == 4 {
			tells(t, p, [][]int{{1, 2, 3, 4, 5}}, 3, []int{10, 15, 15})
		}
	}
}

func TestPlayOfManyRuns(t *testing.T) {
	through, stuck := 0, 0
	manyRuns(2111, func(g *formSource, p impl.Plan, inputs [][]int) {
		for _, rounds := range []int{1, g.below(4), g.below(12)} {
			runHolds(t, p, inputs, rounds, 1+g.below(maxWorkers))
		}
		if _, ok := impl.Play(p, inputs, 1); ok {
			through++
			return
		}
		stuck++
	})
	if through < 200 || stuck < 5 {
		t.Errorf("%d runs went through, %d were stuck", through, stuck)
	}
}

// Plans by chance hardly have a balance.
func TestPlayOfManyPlans(t *testing.T) {
	manyPlans(2112, func(g *formSource, p impl.Plan) {
		for range 3 {
			q := g.spoiled(p)
			runHolds(t, q, g.inputs(q, 9), g.below(4), 1+g.below(4))
		}
		runHolds(t, p, g.inputs(p, 9), 2, 2)
	})
}

// Promise 23: a round more tells more behind what was told.
func TestPlayOfARoundMore(t *testing.T) {
	manyRuns(2113, func(g *formSource, p impl.Plan, inputs [][]int) {
		ahead, ok := impl.Play(p, inputs, 0)
		for rounds := 1; ok && rounds < 7; rounds++ {
			var told [][]int
			told, ok = impl.Play(p, inputs, rounds)
			for at := range told {
				if len(told[at]) <= len(ahead[at]) || !slices.Equal(told[at][:len(ahead[at])], ahead[at]) {
					t.Errorf("%d rounds tell %v, one less %v", rounds, told[at], ahead[at])
				}
			}
			ahead = told
		}
	})
}
