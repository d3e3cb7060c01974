package tests

import (
	"slices"
	"strings"
	"testing"

	"loop.example/g00043/impl"
)

// planText begins a plan and ends it.
func planText(out string, rounds int, ins string, lines ...string) string {
	head := "plan " + out + " " + textOfInts(rounds) + strings.TrimRight(" "+ins, " ")
	return linesOf(append(append([]string{head}, lines...), "end")...)
}

var doubled = strings.Split(strings.TrimSuffix(smallBenchPlan, "\nend"), "\n")

func TestBenchPlan(t *testing.T) {
	ahead := "signal a 1 2 3\nsignal b 10 20\n"
	says(t, ahead+planText("o", 4, "a", doubled...)+"show o\n", "a 3", "b 2", "o 4", "2 4 6 0")
	says(t, ahead+planText("o", 0, "a", doubled...)+"show o\n", "a 3", "b 2", "o 0", "empty")
	says(t, ahead+planText("a", 2, "a", doubled...)+"show a\n", "a 3", "b 2", "a 2", "2 4")
	two := []string{"node p in", "node q in", "node s add", "node late delay 1", "node r out", "node u out", "link p -> s", "link q -> s", "link s -> late", "link s -> r", "link late -> u"}
	says(t, ahead+planText("o", 3, "a b", two...)+"show o\n", "a 3", "b 2", "o 6", "11 22 3 0 11 22")
	says(t, ahead+planText("o", 3, "b a", two...)+"show o\n", "a 3", "b 2", "o 6", "11 22 3 0 11 22")
	says(t, ahead+planText("o", 1, "a a", two...)+"show o\n", "a 3", "b 2", "o 2", "2 0")
	for _, ins := range []string{"", "a", "a b a", "a c", "c b", "a b 1", "b b b b"} {
		saysNo(t, ahead, strings.TrimSuffix(planText("o", 3, ins, two...), "\n"))
		saysNo(t, ahead, strings.TrimSuffix(planText("b", 3, ins, two...), "\n"))
	}
}

// A plan without a NodeIn has no signals, and one without a NodeOut tells none.
func TestBenchPlanWithoutInputs(t *testing.T) {
	around := []string{"node d delay 2", "node g gain 3", "node o out", "link g -> d", "link d -> g", "link d -> o"}
	says(t, planText("o", 3, "", around...)+"show o\n", "o 3", "0 0 0")
	saysNo(t, "signal a 1\n", strings.TrimSuffix(planText("o", 3, "a", around...), "\n"))
	says(t, "signal a 1\n"+planText("o", 3, "a", "node x in")+"show o\n", "a 1", "o 0", "empty")
	says(t, "plan x\nend\nplan\nend\nplan x 1 \nend\nplan x  1\nend\n", "no", "no", "no", "no")
}

func TestBenchPlanRounds(t *testing.T) {
	ahead := "signal a 5\n"
	for _, rounds := range []int{0, 1, 2, 63, maxTurns} {
		says(t, ahead+planText("o", rounds, "a", doubled...), "a 1", "o "+textOfInts(rounds))
	}
	for _, rounds := range []int{-1, maxTurns + 1, maxTurns + 2, 1000, 9999999999, -9999999999, 1 << 32} {
		saysNo(t, ahead, strings.TrimSuffix(planText("o", rounds, "a", doubled...), "\n"))
		saysNo(t, ahead, strings.TrimSuffix(planText("a", rounds, "a", doubled...), "\n"))
	}
	for _, rounds := range []string{"01", "-0", "+1", "1.0", "a", "", "1e1"} {
		saysNo(t, ahead, "plan o "+rounds+" a\n"+smallBenchPlan)
	}
}

// All NodeOuts together tell no more than a signal may have.
func TestBenchPlanAtMaxSignal(t *testing.T) {
	lines := []string{"node x in", "node y up 8", "node z out", "link x -> y", "link y -> z"}
	says(t, "signal a 1\n"+planText("o", 64, "a", lines...), "a 1", "o 512")
	lines = append(lines, "node w out", "link x -> w")
	for rounds := range maxTurns + 1 {
		want := "o " + textOfInts(9*rounds)
		if 9*rounds > maxSignal {
			want = "no"
		}
		saysAlso(t, "signal a 1\nsignal o 7\n", strings.TrimSuffix(planText("o", rounds, "a", lines...), "\n"), want)
	}
	// A block of 64 samples is told 9 times over.
	lines = []string{"node x in", "node y up 64", "node z out", "link x -> y", "link y -> z"}
	says(t, "signal a 1\n"+planText("o", 8, "a", lines...), "a 1", "o 512")
	saysNo(t, "signal a 1\n", strings.TrimSuffix(planText("o", 9, "a", lines...), "\n"))
}

// Of a number beyond 10^15 a plan makes 0; a signal beyond samples goes into none.
func TestBenchPlanOfGreatNumbers(t *testing.T) {
	lines := []string{"node x in", "node g gain 1000", "node h gain 1000", "node z out", "link x -> g", "link g -> h", "link h -> z"}
	says(t, "signal a 1000000000 -1000000000 999999999\n"+planText("o", 3, "a", lines...)+"show o\n", "a 3", "o 3", "1000000000000000 -1000000000000000 999999999000000")
	lines = append(lines, "node s add", "node y out", "link x -> s", "link h -> s", "link s -> y")
	says(t, "signal a 1000000000 -1000000000 7\n"+planText("o", 3, "a", lines...)+"show o\n", "a 3", "o 6", "1000000000000000 -1000000000000000 7000000 0 0 7000007")
	for _, x := range []string{"1000000001", "-1000000001", "0 9999999999"} {
		saysNo(t, "signal a "+x+"\n", strings.TrimSuffix(planText("o", 1, "a", doubled...), "\n"))
		saysNo(t, "signal a "+x+"\n", strings.TrimSuffix(planText("o", 0, "a", doubled...), "\n"))
	}
}

// A plan that is none, that is stuck, or that fires too often says no.
func TestBenchPlanThatIsNone(t *testing.T) {
	ahead := "signal a 1\nsignal o 7\n"
	for _, lines := range [][]string{
		{}, {"node x in", "node x out"}, {"node x in", "node y out"}, {"node x in", "link x -> x"}, {"node x in", "node y out", "link y -> x"}, {"link x -> y", "node x in", "node y out"}, {"node x in 1"}, {"node x gain"}, {"node  x in"}, {" node x in"}, {"node x in "}, {"node x In"}, {"node 1 in"},
		{"node x in", "node y gain 1001", "node z out", "link x -> y", "link y -> z"}, {"node x in", "node y up 65", "node z out", "link x -> y", "link y -> z"}, {"node x in\r"}, {"node x in", "end "}, {"node x in", "\tend"}, {"x"},
		{"node p in", "node s add", "node q add", "link p -> s", "link q -> s", "link s -> q", "link p -> q"}, {"node p in", "node s add", "node d up 2", "link p -> s", "link d -> s", "link s -> d"},
		{"node x in", "node a up 64", "node b up 64", "node c down 2", "node o out", "link x -> a", "link a -> b", "link b -> c", "link c -> o"},
	} {
		saysNo(t, ahead, strings.TrimSuffix(planText("o", 2, "a", lines...), "\n"))
		saysAlso(t, ahead, planText("o", 2, "a", lines...)+"show o", "no\n7")
	}
	fires := []string{"node x in", "node y up 16", "node z out", "node w up 2", "node v out", "link x -> y", "link y -> z", "link y -> w", "link w -> v"}
	saysAlso(t, ahead, strings.TrimSuffix(planText("o", 10, "a", fires...), "\n"), "o 480")
}

func manyNodes(count int) []string {
	lines := []string{"node a in"}
	for at := 1; at < count; at++ {
		lines = append(lines, "node "+string(rune('a'+at))+" out", "link a -> "+string(rune('a'+at)))
	}
	return lines
}

func TestBenchPlanAtMaxNodes(t *testing.T) {
	for count := 1; count <= maxNodes; count++ {
		says(t, "signal a 1 2\n"+planText("o", 2, "a", manyNodes(count)...), "a 2", "o "+textOfInts(2*(count-1)))
	}
	saysNo(t, "signal a 1 2\n", strings.TrimSuffix(planText("o", 2, "a", manyNodes(maxNodes+1)...), "\n"))
}

// A script may have as many bytes as MaxScript says, and not one more.
func TestBenchPlanAtMaxScript(t *testing.T) {
	ahead := "signal a 1 2\n"
	own := len(linesOf(doubled...))
	for _, more := range []int{-1, 0, 1, 2, 100} {
		lines := append(slices.Clone(doubled), "#"+strings.Repeat("x", maxScript-own-2+more))
		want := "o 2"
		if more > 0 {
			want = "no"
		}
		saysAlso(t, ahead, strings.TrimSuffix(planText("o", 2, "a", lines...), "\n"), want)
	}
}

// Within a plan stand its own lines alone: those of the bench are wrong there, and do nothing.
func TestBenchPlanOfOtherLines(t *testing.T) {
	ahead := "signal a 1 2\n"
	for _, line := range []string{"signal b 5", "signal a 9", "show a", "plan q 1 a", "plan", "send b 4 2 hey", "num 1 half", " end", "end ", "END", "end\r", "endend", "end end"} {
		for at := range len(doubled) + 1 {
			lines := slices.Insert(slices.Clone(doubled), at, line)
			saysAlso(t, ahead, planText("o", 2, "a", lines...)+"show a\nshow b", "no\n1 2\nno")
		}
	}
	for _, line := range []string{"", "#", "# end", "#end", "# signal b 5", "#\xff", "##plan x 1"} {
		for at := range len(doubled) + 1 {
			lines := slices.Insert(slices.Clone(doubled), at, line, line)
			saysAlso(t, ahead, planText("o", 2, "a", lines...)+"show o", "o 2\n2 4")
		}
	}
	// The first line that is end ends it, and what stands behind is the bench's.
	saysAlso(t, ahead, planText("o", 2, "a", doubled...)+"end\nshow o\nend", "o 2\nno\n2 4\nno")
	saysAlso(t, ahead, "plan o 2 a\nplan o 2 a\n"+smallBenchPlan+"\nend", "no\nno")
	saysAlso(t, ahead, "plan o 2 a\nend\n"+smallBenchPlan, "no"+strings.Repeat("\nno", 6))
}

// Without an end all lines that are left are passed over.
func TestBenchPlanWithoutEnd(t *testing.T) {
	ahead := "signal a 1 2\n"
	for _, lines := range [][]string{{}, doubled, append(slices.Clone(doubled), "show a"), {"show a", "show a"}, {""}, {"#"}, {"signal b 1", "show b", "plan c 1", "END", " end", "end "}} {
		for _, head := range []string{"plan o 2 a", "plan o 2 b", "plan", "plan o", "plan 1 1", "plan o 2 a ", "plan  o 2 a"} {
			saysNo(t, ahead, linesOf(append([]string{head}, lines...)...))
			saysNo(t, ahead, strings.TrimSuffix(linesOf(append([]string{head}, lines...)...), "\n"))
		}
	}
	saysNo(t, ahead, "plan o 2 a\n"+linesOf(doubled...)+"#end")
}

// The lines behind a first word that is plan are passed over, also where the line is wrong.
func TestBenchPlanWithWrongBeginning(t *testing.T) {
	ahead := "signal a 1 2\n"
	for _, head := range []string{"plan", "plan ", "plan o", "plan o ", "plan o x a", "plan o 01 a", "plan o -0 a", "plan o 2 b", "plan o 2 a b", "plan o 2 1", "plan 1 2 a", "plan \xff 2 a", "plan o 2 a ", "plan o  2 a", "plan  o 2 a", "plan o 65 a", "plan o -1 a", "plan o 2 #", "plan # 2 a", "plan o 2\ta", "plan end", "plan a 2"} {
		saysAlso(t, ahead, head+"\n"+linesOf(doubled...)+"signal a 7\nend\nshow a", "no\n1 2")
		saysAlso(t, ahead, head+"\n"+smallBenchPlan+"\nshow a", "no\n1 2")
		saysAlso(t, ahead, head+"\nend\nend\nshow a", "no\nno\n1 2")
	}
	// These have another first word.
	for _, head := range []string{" plan o 2 a", "Plan o 2 a", "plans o 2 a", "pla o 2 a", "plan\to 2 a", "\tplan o 2 a", "plan\u00a0o 2 a", "xplan o 2 a", "plan: o", "\ufeffplan o 2 a", "plan\r"} {
		saysAlso(t, ahead, head+"\nshow a\nend\nshow a", "no\n1 2\nno\n1 2")
	}
	saysAlso(t, ahead, "#plan o 2 a\nshow a", "1 2")
}

// The names of a plan's nodes are no signals, and those of signals no nodes.
func TestBenchPlanNames(t *testing.T) {
	says(t, linesOf("signal \u03c9 1 2")+planText("\u03a9", 2, "\u03c9", "node \u03c9 in", "node end out", "link \u03c9 -> end")+linesOf("show \u03a9", "show end", "signal plan 3", "show plan"), "\u03c9 2", "\u03a9 2", "1 2", "no", "plan 1", "3")
	says(t, "signal x 5\n"+planText("x", 1, "x", "node x in", "node y out", "link x -> y")+"show y\nshow x\n", "x 1", "x 1", "no", "5")
}

func TestBenchPlansByChance(t *testing.T) {
	manyRuns(2221, func(g *formSource, p impl.Plan, inputs [][]int) {
		script := impl.ShowPlan(p)
		text, names := "", []string{}
		for at, list := range inputs {
			name := "in" + textOfInts(at)
			if len(list) > 0 {
				text += signalLine(name, list) + "\n"
			} else {
				text += "tone " + name + " 0 0 0\n"
			}
			names = append(names, name)
		}
		plan := planText("out", g.below(12), strings.Join(names, " "), strings.Split(strings.TrimSuffix(script, "\n"), "\n")...)
		if len(text+plan) > maxBench-10 || strings.Count(text+plan, "\n") > maxBenchLines-3 {
			return
		}
		benchHolds(t, text+plan+"show out\n")
		benchHolds(t, text+g.mutated(plan, 1, []string{"", " ", "\n", "a", "1", "-", "#", "end\n", "\nend"})+"show out\n")
	})
}
