package tests

import (
	"slices"
	"testing"

	"loop.example/g00043/impl"
)

func wiresAre(t *testing.T, p impl.Plan, want ...impl.Wire) {
	t.Helper()
	got, ok := impl.Wiring(p)
	if !ok || !slices.Equal(got, want) {
		t.Errorf("Wiring of %v is %v %v, not %v", p, got, ok, want)
	}
	planHolds(t, p)
}

// row has a node of one kind ahead of one of another.
func row(first, n1, second, n2 int) impl.Plan {
	p := planOf([]impl.Node{{Name: "a", Kind: first, N: n1}, {Name: "b", Kind: second, N: n2}, {Name: "in", Kind: impl.NodeIn}})
	for at, kind := range []int{first, second} {
		for range doorsSlow(kind) {
			p.Links = append(p.Links, linked(2-2*at, at))
		}
	}
	return p
}

func TestWiringByHand(t *testing.T) {
	wiresAre(t, planOf(sources(1)))
	wiresAre(t, row(impl.NodeGain, 7, impl.NodeOut, 0), wired(2, 0, 1, 1), wired(0, 1, 1, 1))
	wiresAre(t, row(impl.NodeGain, -1000, impl.NodeAdd, 0), wired(2, 0, 1, 1), wired(0, 1, 1, 1), wired(0, 1, 1, 1))
	wiresAre(t, row(impl.NodeUp, 64, impl.NodeDown, 63), wired(2, 0, 1, 1), wired(0, 1, 64, 63))
	wiresAre(t, row(impl.NodeUp, 2, impl.NodeFold, 5), wired(2, 0, 1, 1), wired(0, 1, 2, 5))
	wiresAre(t, row(impl.NodeDelay, 64, impl.NodeFold, 64), wired(2, 0, 1, 1), laden(0, 1, 1, 64, 64))
	wiresAre(t, row(impl.NodeDelay, 3, impl.NodeDelay, 4), wired(2, 0, 1, 1), laden(0, 1, 1, 1, 3))
	wiresAre(t, row(impl.NodeDown, 9, impl.NodeUp, 8), wired(2, 0, 1, 9), wired(0, 1, 1, 1))
	wiresAre(t, row(impl.NodeFold, 9, impl.NodeOut, 0), wired(2, 0, 1, 9), wired(0, 1, 1, 1))
	wiresAre(t, planOf([]impl.Node{{Name: "d", Kind: impl.NodeDelay, N: 5}}, linked(0, 0)), laden(0, 0, 1, 1, 5))
	wiresAre(t, planOf([]impl.Node{{Name: "u", Kind: impl.NodeUp, N: 5}}, linked(0, 0)), wired(0, 0, 5, 1))
	wiresAre(t, planOf([]impl.Node{{Name: "f", Kind: impl.NodeFold, N: 5}}, linked(0, 0)), wired(0, 0, 1, 5))
}

// Each kind ahead of each kind, with N at both ends.
func TestWiringOfKinds(t *testing.T) {
	for first := 3; first <= 8; first++ {
		for second := 1; second <= 8; second++ {
			least1, most1 := endsOfN(first)
			least2, most2 := endsOfN(second)
			for _, n1 := range []int{least1, most1} {
				for _, n2 := range []int{least2, most2} {
					planStands(t, row(first, n1, second, n2))
				}
			}
		}
	}
}

func TestWiringKeepsTheOrderOfLinks(t *testing.T) {
	manyPlans(2071, func(g *formSource, p impl.Plan) {
		back := planOf(p.Nodes, p.Links...)
		back.Links = slices.Clone(p.Links)
		slices.Reverse(back.Links)
		wires, _ := impl.Wiring(p)
		slices.Reverse(wires)
		wiresAre(t, back, wires...)
		if len(wires) > 0 && !impl.WiresOk(len(p.Nodes), wires) {
			t.Errorf("the wires of %v are not right", p)
		}
	})
}

func TestWiringOfNoPlan(t *testing.T) {
	for _, p := range []impl.Plan{{}, planOf(nil, linked(0, 0)), through(impl.NodeUp, 65), through(9, 1), planOf(sources(21)), planOf(through(impl.NodeAdd, 0).Nodes, linked(0, 2), linked(0, 1))} {
		wires, ok := impl.Wiring(p)
		if ok || len(wires) != 0 {
			t.Errorf("Wiring of %v is %v %v", p, wires, ok)
		}
	}
}
