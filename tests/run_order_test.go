package tests

import (
	"math"
	"slices"
	"testing"

	"loop.example/g00043/impl"
)

func toldBy(t *testing.T, p impl.Plan, inputs [][]int, order []int, code int, want ...[]int) {
	t.Helper()
	slow, slowCode := playBySlow(p, inputs, order)
	holdBy(t, "the oracle by hand", slow, slowCode, want, code)
	got, gotCode := impl.PlayBy(p, inputs, order)
	holdBy(t, "PlayBy by hand", got, gotCode, want, code)
}

func TestPlayByOrders(t *testing.T) {
	p := between(impl.NodeGain, 3)
	in := [][]int{{1, 2, 4}}
	toldBy(t, p, in, nil, -1, nil)
	toldBy(t, p, in, []int{}, -1, nil)
	toldBy(t, p, in, []int{0}, -1, nil)
	toldBy(t, p, in, []int{0, 1}, -1, nil)
	toldBy(t, p, in, []int{0, 1, 2}, -1, []int{3})
	toldBy(t, p, in, []int{0, 0, 1, 1, 2}, -1, []int{3})
	toldBy(t, p, in, []int{0, 0, 1, 2, 1, 2}, -1, []int{3, 6})
	toldBy(t, p, in, []int{0, 0, 0, 0, 1, 1, 1, 1, 2, 2, 2, 2}, -1, []int{3, 6, 12, 0})
	p = between(impl.NodeUp, 3)
	toldBy(t, p, in, []int{0, 1, 2, 2}, -1, []int{1, 0})
	toldBy(t, p, in, []int{0, 0, 1, 1, 2, 2, 2, 2, 2}, -1, []int{1, 0, 0, 2, 0})
	p = between(impl.NodeFold, 2)
	toldBy(t, p, in, []int{0, 0, 0, 1, 2}, -1, []int{3})
	p = between(impl.NodeDelay, 2)
	toldBy(t, p, in, []int{2, 2, 0, 0, 1, 2}, -1, []int{0, 0, 1})
	p = planTold(t, "node a in", "node x out", "node y out", "link a -> y", "link a -> x")
	toldBy(t, p, in, []int{0, 2, 0, 2, 1}, -1, []int{1}, []int{1, 2})
}

// What was told by then is told, and nothing of what stands behind.
func TestPlayByWhatCannotFire(t *testing.T) {
	p := between(impl.NodeGain, 3)
	in := [][]int{{1, 2, 4}}
	toldBy(t, p, in, []int{1}, 0, nil)
	toldBy(t, p, in, []int{2}, 0, nil)
	toldBy(t, p, in, []int{2, 0, 1, 2}, 0, nil)
	toldBy(t, p, in, []int{0, 2, 1, 2}, 1, nil)
	toldBy(t, p, in, []int{0, 1, 2, 2, 0, 1, 2}, 3, []int{3})
	toldBy(t, p, in, []int{0, 1, 2, 1, 0, 1, 2}, 3, []int{3})
	toldBy(t, p, in, []int{0, 0, 1, 1, 2, 2, 2}, 6, []int{3, 6})
	toldBy(t, between(impl.NodeFold, 2), in, []int{0, 1, 0, 1, 2}, 1, nil)
	toldBy(t, between(impl.NodeFold, 2), in, []int{0, 0, 1, 2, 0, 1}, 5, []int{3})
	toldBy(t, between(impl.NodeUp, 2), in, []int{0, 1, 2, 2, 2}, 4, []int{1, 0})
	toldBy(t, between(impl.NodeDelay, 2), in, []int{2, 2, 2}, 2, []int{0, 0})
	toldBy(t, between(impl.NodeAdd, 0), in, []int{0, 1, 1}, 2, nil)
	// Of two doors one is enough to wait for.
	nodes := append(sources(2), impl.Node{Name: "sum", Kind: impl.NodeAdd}, impl.Node{Name: "o", Kind: impl.NodeOut})
	for _, first := range []int{0, 1} {
		p = planOf(nodes, linked(first, 2), linked(1-first, 2), linked(2, 3))
		toldBy(t, p, [][]int{{1}, {10}}, []int{0, 2}, 1, nil)
		toldBy(t, p, [][]int{{1}, {10}}, []int{1, 2}, 1, nil)
		toldBy(t, p, [][]int{{1}, {10}}, []int{0, 0, 2}, 2, nil)
		toldBy(t, p, [][]int{{1}, {10}}, []int{0, 1, 2, 3, 2}, 4, []int{11})
	}
}

func TestPlayByNoNode(t *testing.T) {
	p := between(impl.NodeGain, 3)
	in := [][]int{{1, 2, 4}}
	for _, none := range []int{-1, 3, -2, 4, -3, 20, 256, 1 << 32, 1<<32 + 1, 1 - 1<<32, math.MaxInt, math.MinInt} {
		toldBy(t, p, in, []int{none}, 0, nil)
		toldBy(t, p, in, []int{none, 0, 1, 2}, 0, nil)
		toldBy(t, p, in, []int{0, none}, 1, nil)
		toldBy(t, p, in, []int{0, 1, 2, none}, 3, []int{3})
		toldBy(t, p, in, []int{0, 1, 2, none, 0, 1, 2}, 3, []int{3})
		toldBy(t, planOf(sources(2)), [][]int{nil, nil}, []int{1, 0, none}, 2)
	}
	for n := 1; n <= maxNodes; n++ {
		toldBy(t, planOf(sources(n)), make([][]int, n), []int{n - 1}, -1)
		toldBy(t, planOf(sources(n)), make([][]int, n), []int{n - 1, n}, 1)
	}
}

func TestPlayByAtMaxFires(t *testing.T) {
	p := between(impl.NodeGain, 3)
	in := [][]int{upTo(maxSignal)}
	want := []int{}
	for at := range 500 {
		want = append(want, 3*(at+1))
	}
	order := append(slices.Repeat([]int{0, 1, 2}, 500), make([]int, maxFires-1500)...)
	toldBy(t, p, in, order, -1, want)
	toldBy(t, p, in, append(order[:maxFires-1:maxFires-1], 1), -1, want)
	toldBy(t, p, in, append(order[:maxFires-1:maxFires-1], 2), maxFires-1, want)
	for _, long := range [][]int{append(slices.Clone(order), 0), make([]int, maxFires+1), make([]int, maxFires+2), make([]int, 5*maxFires), slices.Repeat([]int{-1}, maxFires+1), slices.Repeat([]int{2}, maxFires+1)} {
		toldBy(t, p, in, long, -2)
	}
}

// What is not so counts ahead of a node that can't fire.
func TestPlayByWrong(t *testing.T) {
	p := between(impl.NodeGain, 3)
	for _, order := range [][]int{nil, {0}, {0, 1, 2}, {0, 2}, {1}, {-1}, {3}, make([]int, maxFires), make([]int, maxFires+1)} {
		for _, in := range [][][]int{nil, {}, {nil, nil}, {{1}, {2}}, {{maxSample + 1}}, {{-maxSample - 1}}, {make([]int, maxSignal+1)}} {
			toldBy(t, p, in, order, -2)
		}
		toldBy(t, impl.Plan{}, nil, order, -2)
		toldBy(t, planOf(p.Nodes, p.Links[0]), [][]int{{1}}, order, -2)
		toldBy(t, between(impl.NodeGain, 1001), [][]int{{1}}, order, -2)
	}
}

// An order needs no balance, nor a line.
func TestPlayByWithoutALine(t *testing.T) {
	p := planTold(t, "node a in", "node u up 2", "node s add", "node o out", "link a -> u", "link a -> s", "link u -> s", "link s -> o")
	toldBy(t, p, [][]int{{1, 2}}, []int{0, 1, 2, 3, 0, 2, 3}, -1, []int{2, 2})
	toldBy(t, p, [][]int{{1, 2}}, []int{0, 1, 2, 3, 2}, 4, []int{2})
	p = planTold(t, "node g gain 1", "node o out", "link g -> g", "link g -> o")
	toldBy(t, p, nil, []int{0}, 0, nil)
	toldBy(t, p, nil, []int{1}, 0, nil)
	p = planTold(t, "node d delay 2", "node f fold 3", "node o out", "link d -> f", "link f -> d", "link f -> o")
	toldBy(t, p, nil, []int{1}, 0, nil)
	p = planTold(t, "node a in", "node u up 64", "node v up 64", "node w up 64", "node o out", "link a -> u", "link u -> v", "link v -> w", "link w -> o")
	toldBy(t, p, [][]int{{7}}, []int{0, 1, 2, 2, 3, 3, 4, 4}, -1, []int{7, 0})
}

// An order may end inside a round, in each place.
func TestPlayByPartsOfRounds(t *testing.T) {
	manyRuns(2121, func(g *formSource, p impl.Plan, inputs [][]int) {
		order, ok := roundsBy(p, 2, g.anyOf)
		if !ok || len(order) > 100 {
			return
		}
		for at := range len(order) + 1 {
			playByHolds(t, p, inputs, order[:at])
		}
	})
}

// roundsBy goes through so many rounds, all at once, in the order that pick chooses of those that can fire.
func roundsBy(p impl.Plan, rounds int, pick func(ready []int) int) ([]int, bool) {
	fires, ok := firesSlow(p, rounds)
	if !ok {
		return nil, false
	}
	b, counts, order := netOfPlan(p), make([]int, len(p.Nodes)), []int{}
	for {
		ready := b.readySlow(counts, fires)
		if len(ready) == 0 {
			return order, len(order) <= maxFires
		}
		node := pick(ready)
		counts[node]++
		order = append(order, node)
	}
}

func (g *formSource) anyOf(ready []int) int { return ready[g.below(len(ready))] }

func theFirst(ready []int) int { return ready[0] }

func theLast(ready []int) int { return ready[len(ready)-1] }

// Promise 23: a plan tells the same in every order.
func TestPlayByTellsWhatPlayTells(t *testing.T) {
	held := 0
	manyRuns(2122, func(g *formSource, p impl.Plan, inputs [][]int) {
		for _, rounds := range []int{0, 1, 3} {
			want, _ := impl.Play(p, inputs, rounds)
			for _, pick := range []func([]int) int{theFirst, theLast, g.anyOf, g.anyOf} {
				if order, ok := roundsBy(p, rounds, pick); ok {
					held++
					got, code := impl.PlayBy(p, inputs, order)
					holdBy(t, "PlayBy of what goes through the rounds", got, code, want, -1)
				}
			}
		}
	})
	if held < 2000 {
		t.Errorf("only %d orders were held", held)
	}
}

func TestPlayByAnyOrder(t *testing.T) {
	stopped, through := 0, 0
	manyRuns(2123, func(g *formSource, p impl.Plan, inputs [][]int) {
		b := netOfPlan(p)
		for range 3 {
			order := g.anyOrder(b, g.below(60))
			playByHolds(t, p, inputs, order)
			if _, code := b.fireSlow(order); code < 0 {
				through++
				continue
			}
			stopped++
		}
	})
	if stopped < 100 || through < 100 {
		t.Errorf("%d orders were stopped, %d went through", stopped, through)
	}
}
