package tests

import (
	"slices"
	"strings"
	"testing"
	"unsafe"

	"loop.example/g00043/impl"
)

// roomyPlan has more behind its nodes and its links.
func roomyPlan(p impl.Plan) (nodes []impl.Node, links []impl.Link) {
	nodes = append(slices.Clone(p.Nodes), impl.Node{Name: "?", Kind: -1, N: -2}, impl.Node{Name: "a", Kind: impl.NodeIn})
	links = append(slices.Clone(p.Links), linked(-3, -4), linked(0, 0))
	return nodes, links
}

// untouchedPlan lays a plan into a room with more behind it, and asks whether any was written into.
func untouchedPlan(t *testing.T, what string, p impl.Plan, call func(p impl.Plan)) {
	t.Helper()
	nodes, links := roomyPlan(p)
	aheadNodes, aheadLinks := roomyPlan(p)
	call(planOf(nodes[:len(p.Nodes)], links[:len(p.Links)]...))
	if !slices.Equal(nodes, aheadNodes) || !slices.Equal(links, aheadLinks) {
		t.Errorf("%s has written into the plan %v", what, p)
	}
}

func overwritePlan(p impl.Plan) {
	for at := range p.Nodes[:cap(p.Nodes)] {
		p.Nodes[:cap(p.Nodes)][at] = impl.Node{Name: "over", Kind: -7, N: -8}
	}
	for at := range p.Links[:cap(p.Links)] {
		p.Links[:cap(p.Links)][at] = linked(-5, -6)
	}
}

func TestScriptPlansStay(t *testing.T) {
	manyPlans(2091, func(g *formSource, p impl.Plan) {
		untouchedPlan(t, "what asks of a plan", p, func(p impl.Plan) { planStands(t, p) })
		spoiled := g.spoiled(p)
		untouchedPlan(t, "what asks of a spoiled plan", spoiled, func(p impl.Plan) { planHolds(t, p) })
	})
	for _, p := range []impl.Plan{{}, planOf(sources(21)), through(9, 9), planOf(nil, linked(0, 0))} {
		untouchedPlan(t, "what is refused", p, func(p impl.Plan) { planFails(t, p) })
	}
}

func TestScriptPlansAreNewMemory(t *testing.T) {
	manyPlans(2092, func(g *formSource, p impl.Plan) {
		text := impl.ShowPlan(p)
		first, _ := impl.ParsePlan(text)
		overwritePlan(first)
		scriptIs(t, text, p)
		second, _ := impl.ParsePlan(text)
		third, _ := impl.ParsePlan(text)
		overwritePlan(third)
		if !samePlan(second, p) {
			t.Errorf("two plans of %q share memory", text)
		}
	})
}

// A name is new memory, too: what a short name shares with a script would keep the whole of it.
func TestScriptNamesAreNewMemory(t *testing.T) {
	manyPlans(2093, func(g *formSource, p impl.Plan) {
		text := impl.ShowPlan(p)
		told, _ := impl.ParsePlan(text)
		from := uintptr(unsafe.Pointer(unsafe.StringData(text)))
		for _, n := range told.Nodes {
			if at := uintptr(unsafe.Pointer(unsafe.StringData(n.Name))); at >= from && at < from+uintptr(len(text)) {
				t.Fatalf("the name %q lies in the script", n.Name)
			}
		}
	})
}

func overwriteWires(wires []impl.Wire) {
	for at := range wires[:cap(wires)] {
		wires[:cap(wires)][at] = laden(-1, -2, -3, -4, -5)
	}
}

func TestScriptWiresAreNewMemory(t *testing.T) {
	manyPlans(2094, func(g *formSource, p impl.Plan) {
		untouchedPlan(t, "Wiring", p, func(p impl.Plan) {
			first, _ := impl.Wiring(p)
			second, _ := impl.Wiring(p)
			overwriteWires(first)
			if !slices.Equal(second, wiringSlow(p)) {
				t.Errorf("two wirings of %v share memory", p)
			}
			planStands(t, p)
		})
	})
	for range 3 {
		none, _ := impl.Wiring(impl.Plan{})
		overwriteWires(none)
		refused, code := impl.ParsePlan("x")
		overwritePlan(refused)
		if len(none) != 0 || code != 1 || len(refused.Nodes)+len(refused.Links) != 0 {
			t.Errorf("what is refused is told: %v %v %d", none, refused, code)
		}
	}
}

// Nothing is kept: what is asked in between changes no answer.
func TestScriptKeepsNothing(t *testing.T) {
	g := formSource(2095)
	plans := fewPlans()
	for _, p := range plans {
		for range 3 {
			other := plans[g.below(len(plans))]
			text := impl.ShowPlan(other)
			impl.ParsePlan(text[:g.below(len(text))])
			planStands(t, p)
			impl.Wiring(g.spoiled(other))
			impl.ParsePlan(strings.Repeat("#", maxScript+1))
			planStands(t, p)
			impl.ReadQty("5 V*s*")
			readHolds(t, "-2.50mV")
			impl.ShowQty(g.qty(9))
			showHolds(t, impl.Qty{Num: -25, Pow: -4, Volt: 1})
		}
	}
}

// Plans and quantities are asked by several at once.
func TestScriptsAskedAtOnce(t *testing.T) {
	done := make(chan bool)
	plans := fewPlans()
	for _, p := range plans {
		want := showPlanSlow(p)
		go func() {
			ok := true
			for range 50 {
				told, code := impl.ParsePlan(want)
				wires, right := impl.Wiring(told)
				q, read := impl.ReadQty("2.5kV")
				ok = ok && code == 0 && samePlan(told, p) && impl.ShowPlan(told) == want && right && slices.Equal(wires, wiringSlow(p))
				ok = ok && read && q == impl.Qty{Num: 25, Pow: 2, Volt: 1} && impl.NodeName(p.Nodes[0].Name)
			}
			done <- ok
		}()
	}
	for range plans {
		if !<-done {
			t.Error("a plan asked beside others is another")
		}
	}
}
