package tests

import (
	"slices"
	"testing"

	"loop.example/g00043/impl"
)

// between has a node of that kind on the way from a NodeIn to a NodeOut.
func between(kind, n int) impl.Plan {
	p := planOf([]impl.Node{{Name: "src", Kind: impl.NodeIn}, {Name: "mid", Kind: kind, N: n}, {Name: "sink", Kind: impl.NodeOut}}, linked(1, 2))
	for range doorsSlow(kind) {
		p.Links = append(p.Links, linked(0, 1))
	}
	return p
}

// planTold is a plan told as a text, a line each.
func planTold(t *testing.T, lines ...string) impl.Plan {
	t.Helper()
	text := ""
	for _, line := range lines {
		text += line + "\n"
	}
	p, code := impl.ParsePlan(text)
	if code != 0 {
		t.Fatalf("line %d of %q is none", code, text)
	}
	return p
}

// tells wants what is told, row by row; the rows of the oracle too.
func tells(t *testing.T, p impl.Plan, inputs [][]int, rounds int, want ...[]int) {
	t.Helper()
	slow, ok := playSlow(p, inputs, rounds)
	holdRows(t, "the oracle by hand", slow, ok, want)
	got, ok := impl.Play(p, inputs, rounds)
	holdRows(t, "Play by hand", got, ok, want)
	runHolds(t, p, inputs, rounds, 3)
}

func upTo(n int) []int { return counted(n + 1)[1:] }

func TestRunNodeIn(t *testing.T) {
	p := planOf([]impl.Node{{Name: "a", Kind: impl.NodeIn}, {Name: "b", Kind: impl.NodeOut}}, linked(0, 1))
	tells(t, p, [][]int{{5, -3}}, 0, nil)
	tells(t, p, [][]int{{5, -3}}, 1, []int{5})
	tells(t, p, [][]int{{5, -3}}, 2, []int{5, -3})
	tells(t, p, [][]int{{5, -3}}, 4, []int{5, -3, 0, 0})
	tells(t, p, [][]int{{}}, 2, []int{0, 0})
	tells(t, p, [][]int{nil}, 1, []int{0})
	tells(t, p, [][]int{{maxSample, -maxSample, maxSample}}, 3, []int{maxSample, -maxSample, maxSample})
	tells(t, p, [][]int{upTo(80)}, maxTurns, upTo(maxTurns))
}

// Inputs belong to the NodeIns, outcomes to the NodeOuts, both in the order of the nodes and not of the links.
func TestRunOrderOfDoors(t *testing.T) {
	p := planTold(t, "node a in", "node x out", "node y out", "node b in", "node c in", "node z out", "link c -> x", "link a -> z", "link b -> y")
	tells(t, p, [][]int{{1, 2}, {10, 20}, {100, 200}}, 2, []int{100, 200}, []int{10, 20}, []int{1, 2})
	p = planTold(t, "node x out", "node a in", "node b in", "node y out", "link a -> y", "link b -> x")
	tells(t, p, [][]int{{1}, {2, 3}}, 3, []int{2, 3, 0}, []int{1, 0, 0})
}

func TestRunNodeGain(t *testing.T) {
	for _, n := range []int{0, 1, -1, 3, -3, 1000, -1000} {
		tells(t, between(impl.NodeGain, n), [][]int{{4, 0, -7, maxSample}}, 5, []int{4 * n, 0, -7 * n, maxSample * n, 0})
	}
}

func TestRunNodeAdd(t *testing.T) {
	tells(t, between(impl.NodeAdd, 0), [][]int{{4, 0, -7, maxSample}}, 5, []int{8, 0, -14, 2 * maxSample, 0})
	nodes := append(sources(2), impl.Node{Name: "sum", Kind: impl.NodeAdd}, impl.Node{Name: "sink", Kind: impl.NodeOut})
	for _, links := range [][]impl.Link{{linked(0, 2), linked(1, 2), linked(2, 3)}, {linked(1, 2), linked(0, 2), linked(2, 3)}, {linked(2, 3), linked(1, 2), linked(0, 2)}} {
		tells(t, planOf(nodes, links...), [][]int{{1, 2, 3}, {10, -20}}, 4, []int{11, -18, 3, 0})
	}
	// One of the two comes later than the other one.
	p := planTold(t, "node a in", "node d delay 2", "node s add", "node o out", "link a -> d", "link d -> s", "link a -> s", "link s -> o")
	tells(t, p, [][]int{{1, 10, 100, 1000}}, 6, []int{1, 10, 101, 1010, 100, 1000})
}

func TestRunNodeDelay(t *testing.T) {
	tells(t, between(impl.NodeDelay, 1), [][]int{{4, 5, 6}}, 4, []int{0, 4, 5, 6})
	tells(t, between(impl.NodeDelay, 3), [][]int{{4, 5, 6}}, 5, []int{0, 0, 0, 4, 5})
	tells(t, between(impl.NodeDelay, 64), [][]int{{4, 5, 6}}, maxTurns, make([]int, 64))
	// Two samples a round, so that more than 64 come through.
	p := planTold(t, "node a in", "node d delay 64", "node f fold 2", "node o out", "link a -> d", "link d -> f", "link f -> o")
	tells(t, p, [][]int{{4, 5, 6, 70}}, 35, append(make([]int, 32), 9, 76, 0))
	// The noughts lie on each wire out of it.
	p = planTold(t, "node a in", "node d delay 1", "node x out", "node g gain 2", "node y out", "link a -> d", "link d -> x", "link d -> g", "link g -> y")
	tells(t, p, [][]int{{4, 5}}, 3, []int{0, 4, 5}, []int{0, 8, 10})
	// Two in a row, and one that takes from itself.
	p = planTold(t, "node a in", "node d delay 2", "node e delay 1", "node o out", "link a -> d", "link d -> e", "link e -> o")
	tells(t, p, [][]int{{4, 5}}, 5, []int{0, 0, 0, 4, 5})
	p = planTold(t, "node d delay 2", "node o out", "link d -> d", "link d -> o")
	tells(t, p, nil, 3, []int{0, 0, 0})
}

func TestRunNodeUp(t *testing.T) {
	tells(t, between(impl.NodeUp, 1), [][]int{{4, 5}}, 3, []int{4, 5, 0})
	tells(t, between(impl.NodeUp, 2), [][]int{{4, 5}}, 3, []int{4, 0, 5, 0, 0, 0})
	tells(t, between(impl.NodeUp, 64), [][]int{{4, 5}}, 2, slices.Concat([]int{4}, make([]int, 63), []int{5}, make([]int, 63)))
}

func TestRunNodeDown(t *testing.T) {
	tells(t, between(impl.NodeDown, 1), [][]int{{4, 5}}, 3, []int{4, 5, 0})
	tells(t, between(impl.NodeDown, 2), [][]int{{4, 5, 6, 7, 8}}, 3, []int{4, 6, 8})
	tells(t, between(impl.NodeDown, 64), [][]int{upTo(200)}, 4, []int{1, 65, 129, 193})
}

func TestRunNodeFold(t *testing.T) {
	tells(t, between(impl.NodeFold, 1), [][]int{{4, 5}}, 3, []int{4, 5, 0})
	tells(t, between(impl.NodeFold, 2), [][]int{{4, 5, 6, 7, 8}}, 3, []int{9, 13, 8})
	tells(t, between(impl.NodeFold, 64), [][]int{upTo(130)}, 3, []int{2080, 6176, 259})
	tells(t, between(impl.NodeFold, 64), [][]int{slices.Repeat([]int{-maxSample}, 100)}, 1, []int{-64 * maxSample})
}

// What is given goes onto each wire, as a whole.
func TestRunSeveralWiresOutOfOne(t *testing.T) {
	p := planTold(t, "node a in", "node u up 6", "node x out", "node f fold 2", "node y out", "node d down 3", "node z out",
		"link a -> u", "link u -> f", "link u -> x", "link u -> d", "link f -> y", "link d -> z")
	tells(t, p, [][]int{{4, 5}}, 2, []int{4, 0, 0, 0, 0, 0, 5, 0, 0, 0, 0, 0}, []int{4, 0, 0, 5, 0, 0}, []int{4, 0, 5, 0})
	// Two wires to one node, and both of its own.
	p = planTold(t, "node a in", "node s add", "node o out", "node d delay 1", "node r add", "node q out",
		"link a -> s", "link a -> s", "link s -> o", "link s -> d", "link d -> r", "link s -> r", "link r -> q")
	tells(t, p, [][]int{{1, 10, 100}}, 3, []int{2, 20, 200}, []int{2, 22, 220})
	// One that nobody takes from.
	p = planTold(t, "node a in", "node u up 5", "node o out", "link a -> u", "link a -> o")
	tells(t, p, [][]int{{7}}, 2, []int{7, 0})
}

// toSum has at its end the sum of a sample times 10^9, times 7 where it is asked for, and a second sample, which goes through that node.
func toSum(t *testing.T, more ...string) impl.Plan {
	t.Helper()
	return planTold(t, append([]string{"node a in", "node g gain 1000", "node h gain 1000", "node i gain 1000", "node b in", "node s add",
		"link a -> g", "link g -> h", "link h -> i", "link i -> s", "link b -> s"}, more...)...)
}

func TestRunBeyondMostFromAdd(t *testing.T) {
	p := toSum(t, "node o out", "link s -> o")
	const million = 1000000
	tells(t, p, [][]int{{million, million, million, -million, -million, -million}, {0, 1, -1, 0, -1, 1}}, 6,
		[]int{maxGiven, 0, maxGiven - 1, -maxGiven, 0, -maxGiven + 1})
	tells(t, p, [][]int{{million - 1, 1 - million}, {maxSample, -maxSample}}, 2, []int{maxGiven, -maxGiven})
	tells(t, p, [][]int{{million - 1, 1 - million, million}, {maxSample - 1, 1 - maxSample, maxSample}}, 3, []int{maxGiven - 1, 1 - maxGiven, 0})
}

// 7 times 142857142857143 is one beyond.
func TestRunBeyondMostFromGain(t *testing.T) {
	p := toSum(t, "node k gain 7", "node o out", "link s -> k", "link k -> o")
	tells(t, p, [][]int{{142857, 142857, -142857, -142857}, {142857142, 142857143, -142857142, -142857143}}, 4, []int{maxGiven - 6, 0, 6 - maxGiven, 0})
	p = toSum(t, "node k gain -7", "node o out", "link s -> k", "link k -> o")
	tells(t, p, [][]int{{142857, 142857, -142857, -142857}, {142857142, 142857143, -142857142, -142857143}}, 4, []int{6 - maxGiven, 0, maxGiven - 6, 0})
	p = toSum(t, "node k gain 1000", "node o out", "link s -> k", "link k -> o")
	tells(t, p, [][]int{{1000, 1000, -1000, -1000, 1000000}, {0, 1, 0, -1, 0}}, 5, []int{maxGiven, 0, -maxGiven, 0, 0})
	p = toSum(t, "node k gain -1000", "node l gain 1000", "node o out", "link s -> k", "link k -> l", "link l -> o")
	tells(t, p, [][]int{{1000000, -1000000, 1}, {0, 0, 0}}, 3, []int{0, 0, -maxGiven})
}

// On the way a fold's sum may be beyond: only what is given counts.
func TestRunBeyondMostFromFold(t *testing.T) {
	p := toSum(t, "node f fold 3", "node o out", "link s -> f", "link f -> o")
	const million = 1000000
	tells(t, p, [][]int{{million, 0, 0, million, 0, 0, -million, 0, 0}, {0, 0, 0, 0, 0, 1, 0, -1, 0}}, 3, []int{maxGiven, 0, 0})
	tells(t, p, [][]int{{million, million, -million, -million, -million, million}, {0, -1, 0, 0, 1, 0}}, 2, []int{maxGiven - 1, 1 - maxGiven})
	tells(t, p, [][]int{{million, million, -million, -million, -million, million}, {0, 0, 0, 0, 0, -1}}, 2, []int{maxGiven, 0})
	tells(t, p, [][]int{{million, million, million, -million, -million, -million}, nil}, 3, []int{0, 0, 0})
	p = toSum(t, "node f fold 64", "node o out", "link s -> f", "link f -> o")
	tells(t, p, [][]int{slices.Repeat([]int{million, -million}, 64), {0, 1}}, 2, []int{1, 0})
}

// What was made 0 is taken as 0 further on: a sum that goes around begins anew.
func TestRunBeyondMostFurtherOn(t *testing.T) {
	p := toSum(t, "node r add", "node d delay 1", "node o out", "node k gain -1", "node x out", "link s -> r", "link d -> r", "link r -> d", "link r -> o", "link r -> k", "link k -> x")
	const million = 1000000
	in := [][]int{{million - 1, 1, 0, 0, -million, -million, 5}, {0, 0, 1, 7, 0, 0, 0}}
	far := (million - 1) * 1000000000
	want := []int{far, maxGiven, 0, 7, 7 - maxGiven, 0, 5000000000}
	turned := []int{}
	for _, x := range want {
		turned = append(turned, -x)
	}
	tells(t, p, in, 7, want, turned)
}
