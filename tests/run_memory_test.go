package tests

import (
	"slices"
	"testing"

	"loop.example/g00043/impl"
)

// untouchedRun lays a plan and its inputs into rooms with more behind them, and asks whether any was written into.
func untouchedRun(t *testing.T, what string, p impl.Plan, inputs [][]int, call func(p impl.Plan, inputs [][]int)) {
	t.Helper()
	rows := apart(inputs)
	ahead := fullRows(rows)
	untouchedPlan(t, what, p, func(p impl.Plan) { call(p, rows) })
	if !slices.EqualFunc(fullRows(rows), ahead, slices.Equal[[]int]) {
		t.Errorf("%s has written into the inputs %v", what, inputs)
	}
}

// A runCall tells rows, or a list as the only row.
type runCall func(p impl.Plan, inputs [][]int) [][]int

// newOfRun writes over an answer, and wants it as it was once more.
func newOfRun(t *testing.T, what string, p impl.Plan, inputs [][]int, call runCall) {
	t.Helper()
	untouchedRun(t, what, p, inputs, func(p impl.Plan, inputs [][]int) {
		first := call(p, inputs)
		want := [][]int{}
		for _, told := range first {
			want = append(want, slices.Clone(told))
		}
		second := call(p, inputs)
		overwrite(t, first)
		clear(first[:cap(first)])
		holdRows(t, what+", asked ahead,", second, true, want)
		holdRows(t, what+", asked again,", call(p, inputs), true, want)
	})
}

func TestRunAnswersAreNewMemory(t *testing.T) {
	manyRuns(2161, func(g *formSource, p impl.Plan, inputs [][]int) {
		rounds, workers, node := g.below(4), 1+g.below(4), g.below(len(p.Nodes))
		order := g.anyOrder(netOfPlan(p), g.below(30))
		newOfRun(t, "Play", p, inputs, func(p impl.Plan, inputs [][]int) [][]int {
			told, _ := impl.Play(p, inputs, rounds)
			return told
		})
		newOfRun(t, "PlayMany", p, inputs, func(p impl.Plan, inputs [][]int) [][]int {
			told, _ := impl.PlayMany(p, inputs, rounds, workers)
			return told
		})
		newOfRun(t, "Probe", p, inputs, func(p impl.Plan, inputs [][]int) [][]int {
			return [][]int{listOf(impl.Probe(p, inputs, rounds, node))}
		})
		untouchedInts(t, "PlayBy", order, func(order []int) {
			newOfRun(t, "PlayBy", p, inputs, func(p impl.Plan, inputs [][]int) [][]int {
				told, _ := impl.PlayBy(p, inputs, order)
				return told
			})
		})
	})
}

func TestTallyIsNewMemory(t *testing.T) {
	manyRuns(2162, func(g *formSource, p impl.Plan, _ [][]int) {
		untouchedPlan(t, "Tally", p, func(p impl.Plan) {
			rounds := g.below(4)
			first, ok := impl.Tally(p, rounds, 2)
			second, _ := impl.Tally(p, rounds, 2)
			for at := range first[:cap(first)] {
				first[:cap(first)][at] = fired(-1, -2)
			}
			if fires, runs := firesSlow(p, rounds); ok != runs || ok && !slices.Equal(second, newPlayed(p, nil).counts(fires)) {
				t.Errorf("two tallies of %v share memory: %v", p, second)
			}
		})
	})
}

// A NodeOut that tells just what comes in tells a copy; so does Probe of a NodeIn.
func TestRunOfWhatComesInIsACopy(t *testing.T) {
	p := planOf([]impl.Node{{Name: "a", Kind: impl.NodeIn}, {Name: "b", Kind: impl.NodeOut}, {Name: "c", Kind: impl.NodeOut}}, linked(0, 1), linked(0, 2))
	in := upTo(30)
	for rounds := range 40 {
		rows, _ := impl.Play(p, [][]int{in}, rounds)
		overwrite(t, rows)
		rows, _ = impl.PlayMany(p, [][]int{in}, rounds, 3)
		overwrite(t, rows)
		for node := range 3 {
			overwriteNothing(t, in, listOf(impl.Probe(p, [][]int{in}, rounds, node)))
		}
	}
	if !slices.Equal(in, upTo(30)) {
		t.Errorf("what is told is what came in: %v", in)
	}
}

// One list may come in at several doors.
func TestRunOfOneListAtSeveralDoors(t *testing.T) {
	nodes := append(sources(2), impl.Node{Name: "sum", Kind: impl.NodeAdd}, impl.Node{Name: "o", Kind: impl.NodeOut})
	p := planOf(nodes, linked(0, 2), linked(1, 2), linked(2, 3))
	in := []int{1, 2, 3, 4}
	tells(t, p, [][]int{in, in}, 5, []int{2, 4, 6, 8, 0})
	tells(t, p, [][]int{in[:2], in[1:]}, 3, []int{3, 5, 4})
	if !slices.Equal(in, []int{1, 2, 3, 4}) {
		t.Errorf("the list has changed: %v", in)
	}
}

// Behind the length of a list nothing is read.
func TestRunReadsNoSpareRoom(t *testing.T) {
	p := between(impl.NodeGain, 2)
	in := []int{1, 2, 3, maxSample + 1, 5}
	rows := [][]int{in[:2], {7}, {8}}
	tells(t, p, rows[:1], 4, []int{2, 4, 0, 0})
	order := []int{0, 1, 2, 0, -1, 3}
	toldBy(t, p, rows[:1], order[:4], -1, []int{2})
	nodes := append(slices.Clone(p.Nodes), impl.Node{}, p.Nodes[0])
	links := append(slices.Clone(p.Links), linked(0, 1), linked(-1, 7))
	tells(t, planOf(nodes[:3], links[:2]...), rows[:1], 3, []int{2, 4, 0})
	long := make([]int, maxSignal+5)
	for at := range long[maxSignal-1:] {
		long[maxSignal-1+at] = maxRing + at
	}
	droppedHolds(t, 3, long[:maxSignal], long[:maxSignal])
	noDropped(t, 3, long[5:], long[5:])
}

// What is refused is not written into either, nor handed out.
func TestRunRefusedArgumentsStay(t *testing.T) {
	for _, p := range []impl.Plan{{}, adders(2), planOf(sources(21)), between(impl.NodeGain, 1001), between(impl.NodeGain, 2)} {
		for _, inputs := range [][][]int{{}, {{1}, {2}}, {{maxSample + 1}}, {make([]int, maxSignal+1)}} {
			untouchedRun(t, "what is refused", p, inputs, func(p impl.Plan, inputs [][]int) {
				for _, order := range [][]int{{0, 1}, {-1}, make([]int, maxFires+1)} {
					untouchedInts(t, "what is refused", order, func(order []int) {
						told, _ := impl.PlayBy(p, inputs, order)
						overwrite(t, told)
					})
				}
				told, _ := impl.Play(p, inputs, 2)
				overwrite(t, told)
				told, _ = impl.PlayMany(p, inputs, 2, 2)
				overwrite(t, told)
				overwrite(t, [][]int{listOf(impl.Probe(p, inputs, 2, 0))})
				impl.Tally(p, 2, 0)
			})
		}
	}
	for _, list := range [][]int{{-1}, make([]int, maxSignal+1), {1, 2, maxRing + 1}} {
		untouchedInts(t, "Dropped", list, func(list []int) { noDropped(t, 3, list, list) })
	}
}

func TestDroppedListsStay(t *testing.T) {
	g := formSource(2163)
	for range 100 {
		count := g.below(20)
		untouchedInts(t, "Dropped", g.of(upTo(20), count), func(gives []int) {
			untouchedInts(t, "Dropped", g.of(upTo(20), count), func(takes []int) { droppedHolds(t, 1+g.below(30), gives, takes) })
			droppedHolds(t, 7, gives, gives)
		})
	}
}

// Nothing is kept: what is asked in between changes no answer.
func TestRunKeepsNothing(t *testing.T) {
	g := formSource(2164)
	plans := append(fewPlans(), fan(), adders(2), between(impl.NodeDelay, 3), between(impl.NodeFold, 2))
	for _, p := range plans {
		in := g.inputs(p, 9)
		for range 3 {
			other := plans[g.below(len(plans))]
			impl.Play(other, g.inputs(other, 9), 3)
			runHolds(t, p, in, 2, 2)
			impl.PlayMany(other, nil, 1, 17)
			impl.Tally(g.spoiled(other), 2, 2)
			runHolds(t, p, in, 2, 1)
			impl.PlayBy(other, quiet(other), []int{0, -1})
			playByHolds(t, p, in, []int{0, 1, 2, 0})
			impl.Dropped(3, []int{5}, []int{1})
			drops(t, 3, []int{3}, []int{3}, 0, 0)
		}
	}
}
