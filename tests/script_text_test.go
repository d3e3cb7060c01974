package tests

import (
	"slices"
	"strconv"
	"strings"
	"testing"

	"loop.example/g00043/impl"
)

const smallScript = "node a in\nnode b gain -3\nnode c out\nlink a -> b\nlink b -> c\n"

func smallPlan() impl.Plan {
	nodes := []impl.Node{{Name: "a", Kind: impl.NodeIn}, {Name: "b", Kind: impl.NodeGain, N: -3}, {Name: "c", Kind: impl.NodeOut}}
	return planOf(nodes, linked(0, 1), linked(1, 2))
}

func scriptIs(t *testing.T, text string, want impl.Plan) {
	t.Helper()
	got, code := impl.ParsePlan(text)
	holdPlan(t, text, got, code, want, 0)
	parseHolds(t, text)
}

// lineFails asks for a script that is refused at that line, as the oracle says, too.
func lineFails(t *testing.T, line int, texts ...string) {
	t.Helper()
	for _, text := range texts {
		parseIs(t, text, line)
		parseHolds(t, text)
	}
}

func TestShowPlanByHand(t *testing.T) {
	if got := impl.ShowPlan(smallPlan()); got != smallScript {
		t.Errorf("ShowPlan is %q", got)
	}
	p := planOf([]impl.Node{
		{Name: "Ω", Kind: impl.NodeIn}, {Name: "out", Kind: impl.NodeOut}, {Name: "g", Kind: impl.NodeGain}, {Name: "s_1", Kind: impl.NodeAdd},
		{Name: "d", Kind: impl.NodeDelay, N: 64}, {Name: "u", Kind: impl.NodeUp, N: 2}, {Name: "é9", Kind: impl.NodeDown, N: 3}, {Name: "f", Kind: impl.NodeFold, N: 10},
	}, linked(3, 1), linked(0, 3), linked(4, 3), linked(0, 2), linked(2, 4), linked(2, 5), linked(5, 6), linked(7, 7))
	want := "node Ω in\nnode out out\nnode g gain 0\nnode s_1 add\nnode d delay 64\nnode u up 2\nnode é9 down 3\nnode f fold 10\n" +
		"link s_1 -> out\nlink Ω -> s_1\nlink d -> s_1\nlink Ω -> g\nlink g -> d\nlink g -> u\nlink u -> é9\nlink f -> f\n"
	if got := impl.ShowPlan(p); got != want {
		t.Errorf("ShowPlan is %q", got)
	}
	planStands(t, p)
	scriptIs(t, want, p)
}

func TestShowPlanOfNoPlan(t *testing.T) {
	for _, p := range []impl.Plan{{}, planOf(nil, linked(0, 0)), through(impl.NodeGain, 1001), through(0, 0), through(9, 0), planOf(sources(21)), planOf(smallPlan().Nodes)} {
		if got := impl.ShowPlan(p); got != "" {
			t.Errorf("ShowPlan of %v is %q", p, got)
		}
	}
}

// widest is the plan with the longest text of all: as many links as may be, and names of as many bytes.
func widest() impl.Plan {
	p := adders(maxNodes)
	for at := range p.Nodes {
		p.Nodes[at].Name = strings.Repeat("Ω", 11) + string(rune(0xe0+at))
	}
	return p
}

func TestShowPlanOfMaxScript(t *testing.T) {
	text := impl.ShowPlan(widest())
	if len(text) != maxScript {
		t.Errorf("the widest plan has a text of %d bytes", len(text))
	}
	planStands(t, widest())
	lineFails(t, -1, text+"\n", "\n"+text, text+"#", text+text)
	less := widest()
	less.Nodes[7].Name = "ä"
	text = impl.ShowPlan(less)
	scriptIs(t, strings.Repeat("\n", maxScript-len(text))+text, less)
	lineFails(t, -1, strings.Repeat("\n", maxScript+1-len(text))+text)
}

func TestParsePlanOfMaxScript(t *testing.T) {
	room := maxScript - len(smallScript)
	scriptIs(t, smallScript+strings.Repeat("\n", room), smallPlan())
	scriptIs(t, smallScript+"#"+strings.Repeat("é", (room-1)/2)+strings.Repeat(" ", (room-1)%2), smallPlan())
	scriptIs(t, "#"+strings.Repeat("x", room-2)+"\n"+smallScript, smallPlan())
	lineFails(t, -1, smallScript+strings.Repeat("\n", room+1), "#"+strings.Repeat("x", room-1)+"\n"+smallScript, strings.Repeat("x", maxScript+1), strings.Repeat("é", maxScript/2+1))
	lineFails(t, 1, strings.Repeat("x", maxScript), "node "+strings.Repeat("x", maxScript-9)+" in\n")
	lineFails(t, maxScript+1, strings.Repeat("\n", maxScript))
	lineFails(t, -1, strings.Repeat("\n", maxScript+1), strings.Repeat("\n", 10*maxScript))
	lineFails(t, maxScript, strings.Repeat("\n", maxScript-1)+"x")
	lineFails(t, 2, "#"+strings.Repeat("x", maxScript-1-len("\nlink"))+"\nlink")
}

func TestParsePlanWithQuietLines(t *testing.T) {
	lines := strings.SplitAfter(smallScript, "\n")
	for _, quiet := range []string{"\n", "#\n", "# node a in\n", "#node\n", "##\n", "#\xff\xfe\n", "#\r\n", "# \n", "#\t\n\n#\n", "#link x -> y\n"} {
		for at := range lines {
			scriptIs(t, strings.Join(lines[:at], "")+quiet+strings.Join(lines[at:], ""), smallPlan())
		}
		scriptIs(t, quiet+strings.Join(lines, quiet), smallPlan())
	}
	for _, end := range []string{"#", "# end", "\n#", "#\n#", "#node a in"} {
		scriptIs(t, smallScript+end, smallPlan())
	}
	lineFails(t, 6, smallScript+" ", smallScript+"\t", smallScript+"\r", smallScript+" #", smallScript+" \n", smallScript+"\r\n", smallScript+" #\n", smallScript+"\x00")
	lineFails(t, 1, "\r\n"+smallScript, " \n"+smallScript, " #\n"+smallScript, "\ufeff"+smallScript)
}

func TestParsePlanOfLinksBetweenNodes(t *testing.T) {
	scriptIs(t, "node a in\nnode b gain -3\nlink a -> b\nnode c out\nlink b -> c\n", smallPlan())
	p := smallPlan()
	p.Links = []impl.Link{linked(1, 2), linked(0, 1)}
	scriptIs(t, "node a in\nnode b gain -3\nnode c out\nlink b -> c\nlink a -> b\n", p)
	scriptIs(t, "node d delay 1\nlink d -> d\nnode o out\nlink d -> o\n",
		planOf([]impl.Node{{Name: "d", Kind: impl.NodeDelay, N: 1}, {Name: "o", Kind: impl.NodeOut}}, linked(0, 0), linked(0, 1)))
	lineFails(t, 1, "link a -> b\n"+smallScript)
	lineFails(t, 2, "node a in\nlink a -> b\nnode b gain -3\nnode c out\nlink b -> c\n", "node b gain -3\nlink a -> b\nnode a in\nnode c out\nlink b -> c\n")
	lineFails(t, 4, "node a in\nnode b gain -3\nlink a -> b\nlink b -> c\nnode c out\n")
}

// A line without its end is a line, too, and none that may stand, but for a quiet one.
func TestParsePlanOfEndsOfLines(t *testing.T) {
	lineFails(t, 5, strings.TrimSuffix(smallScript, "\n"))
	lineFails(t, 1, "node a in", "link a -> a", "node a", "x")
	lineFails(t, 2, "node a in\nnode b in", "#", "\n")
	lineFails(t, 3, "\n\n", "#\n#", "#\n\nnode a in")
	scriptIs(t, "node a in\n", planOf([]impl.Node{{Name: "a", Kind: impl.NodeIn}}))
	scriptIs(t, "node a in\n#", planOf([]impl.Node{{Name: "a", Kind: impl.NodeIn}}))
	for at := range len(smallScript) {
		parseHolds(t, smallScript[:at])
		parseHolds(t, smallScript[:at]+"#")
		parseHolds(t, smallScript[:at]+"\n"+smallScript[at:])
		parseHolds(t, smallScript[:at]+"\r"+smallScript[at:])
		parseHolds(t, smallScript[:at]+" "+smallScript[at:])
		parseHolds(t, smallScript[:at]+smallScript[at+1:])
	}
}

func TestParsePlanOfWrongNodes(t *testing.T) {
	for _, line := range []string{
		"node", "node ", "node a", "node a ", "node a  ", "node  in", "node  a in", "node a  in", "node a in ", " node a in", "\tnode a in", "node\ta in", "node a\tin",
		"node a in\r", "Node a in", "NODE a in", "nodes a in", "node a In", "node a IN", "node a input", "node a i", "node a x", "node a 1", "node in", "a in", "node a in in",
		"node a in 0", "node a in 1", "node a out 0", "node a out 5", "node a add 0", "node a add 2", "node a in -0", "node a gain", "node a gain ", "node a delay", "node a up ",
		"node a down", "node a fold", "node a gain x", "node a gain 1.0", "node a gain 1 ", "node a gain 1 1", "node a gain  1", "node a gain 01", "node a gain +1", "node a gain -0",
		"node a gain 00", "node a gain -01", "node a gain --1", "node a gain 0x1", "node a gain 1_0", "node a gain 1e1", "node a gain 1001", "node a gain -1001", "node a gain 10000",
		"node a gain 99999999999999999999", "node a gain 18446744073709551617", "node a gain -18446744073709551617", "node a gain ١", "node a gain \xff",
		"node a delay 0", "node a delay -0", "node a delay 65", "node a delay -1", "node a delay 01", "node a delay +1", "node a up 0", "node a up 65", "node a up 064", "node a up -64",
		"node a down 0", "node a down 65", "node a down +64", "node a fold 0", "node a fold 65", "node a fold 100", "node a fold 1.", "node a fold 4294967297",
		"node 1 in", "node _ in", "node a-b in", "node a, in", "node \xff in", "node a\xff in", "node \u00d7 in", "node abcdefghijklm in", "node # in", "node a\u00a0in", "node a in\x00",
		"link", "link ", "link x", "link x ->", "link x -> ", "link x ->y", "link x-> x", "link x - > x", "link  x -> x", "link x  -> x", "link x ->  x", "link x -> x ", " link x -> x",
		"link x => x", "link x <- x", "link x -> x -> x", "link -> x", "link  -> x", "link x x", "Link x -> x", "link x -> x\r", "link x\t->\tx", "links x -> x", "x -> x", "->",
	} {
		lineFails(t, 2, "node x gain 1\n"+line+"\nlink x -> x\n", "node x gain 1\n"+line+"\n", "node x gain 1\n"+line, "#\n"+line+"\nnode x gain 1\nlink x -> x\n")
		lineFails(t, 1, line+"\nnode a in\n", line)
	}
}

func TestParsePlanOfKinds(t *testing.T) {
	words := kindWords()
	for kind := 1; kind <= 8; kind++ {
		least, most := endsOfN(kind)
		for n := least - 2; n <= most+2; n++ {
			parseHolds(t, "node a "+words[kind]+" "+strconv.Itoa(n)+"\n")
			parseHolds(t, "node x in\nnode a "+words[kind]+" "+strconv.Itoa(n)+"\nlink x -> a\n")
		}
		parseHolds(t, "node x in\nnode a "+words[kind]+"\nlink x -> a\n")
		planStands(t, through(kind, least), through(kind, most))
	}
	scriptIs(t, "node a gain 0\nlink a -> a\n", planOf([]impl.Node{{Name: "a", Kind: impl.NodeGain}}, linked(0, 0)))
	scriptIs(t, "node a gain -1000\nlink a -> a\n", planOf([]impl.Node{{Name: "a", Kind: impl.NodeGain, N: -1000}}, linked(0, 0)))
}

func TestParsePlanOfNames(t *testing.T) {
	lineFails(t, 2, "node a in\nnode a in\n", "node a in\nnode a out\nlink a -> a\n", "node é in\nnode é gain 1\n")
	lineFails(t, 4, "node a in\n#\nnode b in\nnode a in\n", "node a in\nnode b in\n\nnode b in\n")
	for _, name := range []string{"in", "node", "link", "gain", "V", "ΩΩΩΩΩΩΩΩΩΩΩΩ", "a_1", "é"} {
		scriptIs(t, "node "+name+" gain 5\nlink "+name+" -> "+name+"\n", planOf([]impl.Node{{Name: name, Kind: impl.NodeGain, N: 5}}, linked(0, 0)))
	}
	lineFails(t, 3, "node a in\nnode A out\nlink a -> á\n", "node a in\nnode b out\nlink c -> b\n", "node a in\nnode b out\nlink a -> c\n", "node a in\nnode b out\nlink  -> b\n")
}

func TestParsePlanOfOneTooMany(t *testing.T) {
	text := impl.ShowPlan(planOf(sources(maxNodes)))
	lineFails(t, maxNodes+1, text+"node z in\n", text+"node z out\n", text+"node z in\n#\n")
	lineFails(t, maxNodes+2, text+"#\nnode z in\n", text+"\nnode zz gain 5\n")
	text = impl.ShowPlan(adders(maxNodes))
	lineFails(t, maxNodes+maxWires+1, text+"link na -> na\n", text+"link na -> nnb\n", text+"node z in\n")
	// Into a node, and out of a NodeOut.
	lineFails(t, 6, smallScript+"link a -> c\n", smallScript+"link a -> b\n", smallScript+"link b -> a\n", smallScript+"link c -> c\n", smallScript+"link c -> b\n", smallScript+"link a -> a\n")
	lineFails(t, 2, "node a in\nlink a -> a\n", "node a out\nlink a -> a\n")
	lineFails(t, 3, "node a out\nnode b gain 1\nlink a -> b\nlink b -> a\nlink b -> b\n")
	lineFails(t, 4, "node a in\nnode b out\nlink a -> b\nlink a -> b\n")
	lineFails(t, 5, "node a in\nnode b add\nlink a -> b\nlink b -> b\nlink a -> b\n")
}

// All lines are right, but the plan is not: that is told of a line behind the last.
func TestParsePlanOfWhatLacksSomething(t *testing.T) {
	lineFails(t, 1, "")
	lineFails(t, 2, "\n", "#", "#\n", "node a out\n", "node a add\n", "node a gain 1\n")
	lineFails(t, 3, "\n#", "node a in\nnode b out\n", "node a add\nlink a -> a\n", "node a out\n#", "node a out\n\n")
	lineFails(t, 4, "node a in\nnode b add\nlink a -> b\n", "node a out\n\n#")
	lines := strings.SplitAfter(smallScript, "\n")
	lineFails(t, 4, strings.Join(lines[:3], ""))
	lineFails(t, 5, strings.Join(lines[:4], ""))
}

// What is wrong first is told, whatever lacks behind it.
func TestParsePlanTellsTheFirstFault(t *testing.T) {
	lineFails(t, 1, "x\nnode a in\nnode a in\n", "node a in ", "link a -> a\nx")
	lineFails(t, 2, "node a in\nnode a in\nx\n", "node a out\nx\n", "node a out\nlink a -> a\nx")
	lineFails(t, -1, "x\n"+strings.Repeat("#", maxScript))
}

// quieted is a script with lines between that say nothing.
func (g *formSource) quieted(text string) string {
	told := ""
	for line := range strings.Lines(text) {
		if g.below(3) == 0 && len(told)+len(line) < 2000 {
			told += []string{"\n", "#\n", "# é\n", "#node a in\n"}[g.below(4)]
		}
		told += line
	}
	return told + []string{"", "#", "\n", "# end", "\n#\n"}[g.below(5)]
}

// laterNodes has each link at once behind both its nodes.
func laterNodes(p impl.Plan) (impl.Plan, string) {
	told, text := planOf(p.Nodes), ""
	for at, n := range p.Nodes {
		words := []string{"node", n.Name, kindWords()[n.Kind]}
		if least, most := endsOfN(n.Kind); least != most {
			words = append(words, strconv.Itoa(n.N))
		}
		text += strings.Join(words, " ") + "\n"
		for _, l := range p.Links {
			if max(l.From, l.To) == at {
				told.Links = append(told.Links, l)
				text += "link " + p.Nodes[l.From].Name + " -> " + p.Nodes[l.To].Name + "\n"
			}
		}
	}
	return told, text
}

func TestParsePlanComesBack(t *testing.T) {
	manyPlans(2081, func(g *formSource, p impl.Plan) {
		text := impl.ShowPlan(p)
		for range 5 {
			if quiet := g.quieted(text); len(quiet) <= maxScript {
				scriptIs(t, quiet, p)
			}
		}
		told, text := laterNodes(p)
		scriptIs(t, text, told)
		planStands(t, told)
	})
}

func TestParsePlanByChance(t *testing.T) {
	alphabet := []string{"", "", " ", "\n", "\n\n", "#", "a", "1", "0", "-", "+", "\r", "node ", "link ", " -> ", "in", "\xff", "é", "gain 1"}
	manyPlans(2082, func(g *formSource, p impl.Plan) {
		text := impl.ShowPlan(p)
		for range 30 {
			parseHolds(t, g.mutated(text, 3, alphabet))
		}
		lines := strings.SplitAfter(text, "\n")
		for range 30 {
			mixed := slices.Clone(lines)
			from, to := g.below(len(mixed)), g.below(len(mixed))
			switch g.below(4) {
			case 0:
				mixed[from], mixed[to] = mixed[to], mixed[from]
			case 1:
				mixed[from] = mixed[to]
			case 2:
				mixed[from] = ""
			case 3:
				mixed[from] += mixed[to]
			}
			parseHolds(t, strings.Join(mixed, ""))
		}
	})
}
