package tests

import (
	"math"
	"slices"
	"strings"
	"testing"

	"loop.example/g00043/impl"
)

func linked(from, to int) impl.Link { return impl.Link{From: from, To: to} }

func planOf(nodes []impl.Node, links ...impl.Link) impl.Plan {
	return impl.Plan{Nodes: nodes, Links: links}
}

// through is a plan of one node between a NodeIn and a NodeOut; each of its doors has a link from the NodeIn.
func through(kind, n int) impl.Plan {
	p := planOf([]impl.Node{{Name: "src", Kind: impl.NodeIn}, {Name: "mid", Kind: kind, N: n}, {Name: "sink", Kind: impl.NodeOut}}, linked(0, 2))
	for range doorsSlow(kind) {
		p.Links = append(p.Links, linked(0, 1))
	}
	return p
}

// sources are so many nodes into which nothing goes.
func sources(count int) []impl.Node {
	nodes := []impl.Node{}
	for at := range count {
		nodes = append(nodes, impl.Node{Name: strings.Repeat("n", at/5+1) + string(rune('a'+at%5)), Kind: impl.NodeIn})
	}
	return nodes
}

// adders are so many nodes that take from themselves.
func adders(count int) impl.Plan {
	p := planOf(sources(count))
	for at := range p.Nodes {
		p.Nodes[at].Kind = impl.NodeAdd
		p.Links = append(p.Links, linked(at, at), linked(at, at))
	}
	return p
}

// planFails asks for a plan that is not right, as the oracle says, too.
func planFails(t *testing.T, plans ...impl.Plan) {
	t.Helper()
	for _, p := range plans {
		planIs(t, p, false)
		planHolds(t, p)
	}
}

func planStands(t *testing.T, plans ...impl.Plan) {
	t.Helper()
	for _, p := range plans {
		planIs(t, p, true)
		planHolds(t, p)
	}
}

func TestPlanOkOfCounts(t *testing.T) {
	planFails(t, impl.Plan{}, planOf([]impl.Node{}), planOf(nil, linked(0, 0)), planOf([]impl.Node{}, linked(0, 0)))
	for count := 1; count <= 2*maxNodes; count++ {
		planIs(t, planOf(sources(count)), count <= maxNodes)
		planHolds(t, planOf(sources(count)))
		planHolds(t, adders(count))
	}
	planStands(t, adders(maxNodes), planOf([]impl.Node{{Name: "a", Kind: impl.NodeGain, N: 5}}, linked(0, 0)))
	planFails(t, adders(maxNodes+1), planOf(append(sources(maxNodes), sources(1)...)))
}

func TestPlanOkOfNames(t *testing.T) {
	for _, count := range []int{2, 3, maxNodes} {
		for at := range count {
			for other := range count {
				nodes := sources(count)
				nodes[at].Name = nodes[other].Name
				planIs(t, planOf(nodes), at == other)
				planHolds(t, planOf(nodes))
			}
			for _, name := range []string{"", "1", "_", "a b", "a\n", "a\xff", "\u00d7", "abcdefghijklm", "#", "->"} {
				nodes := sources(count)
				nodes[at].Name = name
				planFails(t, planOf(nodes))
			}
		}
	}
	planStands(t, planOf([]impl.Node{{Name: "a", Kind: 1}, {Name: "A", Kind: 1}, {Name: "ä", Kind: 1}, {Name: "a1", Kind: 1}, {Name: "a_", Kind: 1}}))
	planStands(t, planOf([]impl.Node{{Name: "ΩΩΩΩΩΩΩΩΩΩΩΩ", Kind: impl.NodeIn}, {Name: "link", Kind: impl.NodeIn}, {Name: "node", Kind: impl.NodeIn}}))
}

func TestPlanOkOfKinds(t *testing.T) {
	for kind := 1; kind <= 8; kind++ {
		least, most := endsOfN(kind)
		for _, n := range []int{least, most, min(least+1, most), (least + most) / 2} {
			planStands(t, through(kind, n))
		}
		for _, n := range []int{least - 1, most + 1, least - 1000, most + 1000, math.MinInt, math.MaxInt} {
			planFails(t, through(kind, n))
		}
		for n := -1100; n <= 1100; n++ {
			planIs(t, through(kind, n), n >= least && n <= most)
		}
	}
	for _, kind := range []int{0, 9, -1, 10, 100, math.MinInt, math.MaxInt} {
		for _, n := range []int{0, 1, 5, 64} {
			planFails(t, planOf([]impl.Node{{Name: "a", Kind: kind, N: n}}), planOf([]impl.Node{{Name: "a", Kind: kind, N: n}}, linked(0, 0)), through(kind, n))
		}
	}
}

func TestPlanOkOfDoors(t *testing.T) {
	for kind := 1; kind <= 8; kind++ {
		_, n := endsOfN(kind)
		p := through(kind, n)
		p.Links = p.Links[:1]
		for count := range 5 {
			planIs(t, p, count == doorsSlow(kind))
			planHolds(t, p)
			p.Links = append(p.Links, linked(0, 1))
		}
	}
	planFails(t, planOf([]impl.Node{{Name: "a", Kind: impl.NodeIn}}, linked(0, 0)), planOf([]impl.Node{{Name: "a", Kind: impl.NodeOut}}))
	// A door too few of one node is not made good by one too many of another.
	nodes := []impl.Node{{Name: "a", Kind: impl.NodeIn}, {Name: "b", Kind: impl.NodeOut}, {Name: "c", Kind: impl.NodeOut}}
	planStands(t, planOf(nodes, linked(0, 1), linked(0, 2)), planOf(nodes, linked(0, 2), linked(0, 1)))
	planFails(t, planOf(nodes, linked(0, 1), linked(0, 1)), planOf(nodes, linked(0, 2), linked(0, 2)), planOf(nodes, linked(0, 1)), planOf(nodes))
}

func TestPlanOkOfLinks(t *testing.T) {
	for _, no := range []int{-1, 3, 4, math.MinInt, math.MaxInt, 1 << 32} {
		planFails(t, planOf(through(impl.NodeGain, 3).Nodes, linked(0, 2), linked(no, 1)), planOf(through(impl.NodeGain, 3).Nodes, linked(0, 2), linked(0, no)))
		planFails(t, planOf(through(impl.NodeGain, 3).Nodes, linked(0, 2), linked(0, 1), linked(no, no)))
	}
	// Nothing goes out of a NodeOut, not even to itself.
	planFails(t, planOf(through(impl.NodeGain, 3).Nodes, linked(0, 2), linked(2, 1)), planOf([]impl.Node{{Name: "a", Kind: impl.NodeOut}}, linked(0, 0)))
	for kind := 3; kind <= 8; kind++ {
		_, n := endsOfN(kind)
		p := through(kind, n)
		for at := range p.Links[1:] {
			p.Links[at+1] = linked(1, 1)
			planStands(t, p)
		}
	}
	fan := planOf(sources(maxNodes))
	for at := range fan.Nodes[1:] {
		fan.Nodes[at+1].Kind = impl.NodeOut
		fan.Links = append(fan.Links, linked(0, at+1))
	}
	planStands(t, fan)
	fan.Nodes[0].Kind = impl.NodeOut
	planFails(t, fan)
}

func TestPlanOkAtMaxWires(t *testing.T) {
	p := adders(maxNodes)
	if len(p.Links) != maxWires {
		t.Fatalf("there are %d links, not %d", len(p.Links), maxWires)
	}
	planStands(t, p)
	for at := range p.Nodes {
		planFails(t, planOf(p.Nodes, append(slices.Clone(p.Links), linked(0, at))...))
	}
	planFails(t, planOf(p.Nodes, slices.Repeat(p.Links, 2)...), planOf(p.Nodes, slices.Repeat(p.Links, 500)...))
	planFails(t, planOf(p.Nodes, p.Links[1:]...), planOf(p.Nodes, p.Links[:maxWires-1]...))
}

// spoiled is a plan with one thing changed.
func (g *formSource) spoiled(p impl.Plan) impl.Plan {
	told := planOf(slices.Clone(p.Nodes), slices.Clone(p.Links)...)
	node := g.below(len(told.Nodes))
	switch g.below(8) {
	case 0:
		told.Nodes[node].N += []int{-65, -1, 1, 64, -2000, 2000}[g.below(6)]
	case 1:
		told.Nodes[node].Kind = g.below(10)
	case 2:
		told.Nodes[node].Name = told.Nodes[g.below(len(told.Nodes))].Name
	case 3:
		told.Nodes = append(told.Nodes[:node], told.Nodes[node+1:]...)
	case 4:
		told.Links = append(told.Links, linked(g.below(22)-1, g.below(22)-1))
	case 5:
		if len(told.Links) > 0 {
			told.Links = told.Links[1:]
		}
	case 6:
		if len(told.Links) > 0 {
			told.Links[g.below(len(told.Links))].To = g.below(22) - 1
		}
	case 7:
		if len(told.Links) > 0 {
			told.Links[g.below(len(told.Links))].From = g.below(22) - 1
		}
	}
	return told
}

func TestPlansByChance(t *testing.T) {
	manyPlans(2061, func(g *formSource, p impl.Plan) {
		planStands(t, p)
		for range 10 {
			planHolds(t, g.spoiled(p))
		}
	})
}
