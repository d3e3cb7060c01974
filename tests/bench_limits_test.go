package tests

import (
	"slices"
	"strings"
	"testing"

	"loop.example/g00043/impl"
)

// namedLines make so many signals, n0 with 0, n1 with 1 and so on.
func namedLines(count int) []string {
	lines := []string{}
	for at := range count {
		lines = append(lines, "signal n"+textOfInts(at, at))
	}
	return lines
}

func TestBenchMaxNamed(t *testing.T) {
	for _, count := range []int{1, 2, maxNamed - 1, maxNamed} {
		list := impl.Signals(linesOf(namedLines(count)...))
		if len(list) != count || list[count-1].Name != "n"+textOfInts(count-1) {
			t.Errorf("of %d signals there are %v", count, list)
		}
	}
	ahead := linesOf(namedLines(maxNamed)...)
	for _, line := range []string{"signal x 1", "tone x 1 1 1", "filter x n1 1", "join x n1 n2", "add x n1 n2", "rate x n1 1 1", "lift x n1 1 1", "unlift x n1 1 1", "send x 2 1 A", "plan x 2 n1\n" + smallBenchPlan, "signal n30 1", "signal N1 1", "tone x 1 1 0"} {
		saysNo(t, ahead, line)
		less := linesOf(namedLines(maxNamed - 1)...)
		_, told, _ := strings.Cut(line, " ")
		told, _, _ = strings.Cut(told, " ")
		if list := impl.Signals(less + line); len(list) != maxNamed || list[maxNamed-1].Name != told {
			t.Errorf("%q makes no signal of %d, but %v", line, maxNamed, list)
		}
		benchHolds(t, less+line+"\nsignal y 1\nshow "+told+"\nshow y\n")
	}
}

// With MaxNamed signals those that are there may be told anew, and all others asked.
func TestBenchMaxNamedToldAnew(t *testing.T) {
	ahead := linesOf(namedLines(maxNamed)...)
	for _, line := range [][2]string{
		{"signal n0 5 6", "n0 2"}, {"tone n29 1 1 3", "n29 3"}, {"filter n7 n7 2", "n7 1"}, {"join n1 n1 n2", "n1 2"}, {"add n3 n4 n5", "n3 1"}, {"rate n1 n1 3 1", "n1 3"}, {"lift n9 n1 1 1", "n9 1"}, {"unlift n9 n1 1 1", "n9 1"}, {"send n29 2 1 A", "n29 26"}, {"plan n0 2 n1\n" + smallBenchPlan, "n0 2"},
		{"show n29", "29"}, {"mean n7", "7e0"}, {"bin n3 0", "3 0"},
	} {
		saysAlso(t, ahead, line[0], line[1])
		text := linesOf(line[0], "signal x 1", "show x", "signal n5 55", "show n5")
		saysAlso(t, ahead, strings.TrimSuffix(text, "\n"), line[1]+"\nno\nno\nn5 1\n55")
		if list := impl.Signals(ahead + text); len(list) != maxNamed || list[0].Name != "n0" || list[maxNamed-1].Name != "n29" {
			t.Errorf("%q leaves %v", text, list)
		}
	}
}

// A refused line makes no signal, so that another one may be made.
func TestBenchMaxNamedBehindRefusedLines(t *testing.T) {
	lines := namedLines(maxNamed - 1)
	for _, line := range []string{"signal x", "tone x 1 1 513", "filter x n0 1000001", "join x n0 none", "rate x n0 17 1", "lift x n0 4 1", "send x 3 1 A", "plan x 2 none\nend"} {
		lines = append(lines, line)
	}
	lines = append(lines, "signal y 7", "signal x 8", "show x", "show y")
	benchHolds(t, linesOf(lines...))
	list := impl.Signals(linesOf(lines...))
	if len(list) != maxNamed || list[maxNamed-1].Name != "y" {
		t.Errorf("behind lines that say no there are %v", list)
	}
}

func isLong(t *testing.T, text string) {
	t.Helper()
	if said := impl.Session(text); said != "long\n" {
		t.Errorf("a text of %d bytes and %d line ends says %.200q", len(text), strings.Count(text, "\n"), said)
	}
	if list := impl.Signals(text); len(list) != 0 {
		t.Errorf("a text of %d bytes and %d line ends has signals: %v", len(text), strings.Count(text, "\n"), list)
	}
	benchHolds(t, text)
}

func isNotLong(t *testing.T, text, want string) {
	t.Helper()
	if said := impl.Session(text); said != want {
		t.Errorf("a text of %d bytes and %d line ends says %.200q, not %.200q", len(text), strings.Count(text, "\n"), said, want)
	}
	benchHolds(t, text)
}

func TestBenchMaxBench(t *testing.T) {
	head, tail := "signal a 1\n#", "\nshow a\n"
	for _, some := range []string{"x", "\u03c9", "\xff", " ", "\u540d"} {
		for _, more := range []int{-1, 0, 1, 2, 3, 1000} {
			room := maxBench + more - len(head) - len(tail)
			text := head + strings.Repeat(some, room/len(some)) + strings.Repeat("x", room%len(some)) + tail
			if more > 0 {
				isLong(t, text)
				isLong(t, strings.TrimSuffix(text+"z", "\n"))
				continue
			}
			isNotLong(t, text, "a 1\n1\n")
		}
	}
	// What the last line is makes no difference.
	long := "#" + strings.Repeat("x", maxBench-1)
	isNotLong(t, long, "")
	isNotLong(t, long[:maxBench-1]+"\n", "")
	isLong(t, long+"\n")
	isLong(t, long+"x")
	isLong(t, strings.Repeat("x", maxBench+1))
	isNotLong(t, strings.Repeat("x", maxBench), "no\n")
	isLong(t, strings.Repeat("\n", maxBench+1))
	isLong(t, strings.Repeat("signal a 1\n", 1000))
}

func TestBenchMaxBenchLines(t *testing.T) {
	for _, line := range []string{"", "#", "signal a 1", "x", "plan", "end", " "} {
		most := slices.Repeat([]string{line}, maxBenchLines)
		text := linesOf(most...)
		benchHolds(t, text)
		if said := impl.Session(text); strings.Contains(said, "long") {
			t.Errorf("%d lines %q say %q", maxBenchLines, line, said)
		}
		isLong(t, text+"\n")
		isLong(t, text+line+"\n")
		isLong(t, text+"show a")
		isLong(t, text+"#")
		isLong(t, text+"x")
		if line != "" {
			isLong(t, text+line)
			// Of the last line the end may be left out.
			benchHolds(t, strings.TrimSuffix(text, "\n"))
			if said := impl.Session(strings.TrimSuffix(text, "\n")); said != impl.Session(text) {
				t.Errorf("%d lines %q without the last end say %q", maxBenchLines, line, said)
			}
		}
		isLong(t, linesOf(append(most, most...)...))
	}
	ahead := strings.Repeat("\n", maxBenchLines-2)
	isNotLong(t, ahead+"signal a 1\nshow a\n", "a 1\n1\n")
	isNotLong(t, ahead+"signal a 1\nshow a", "a 1\n1\n")
	isLong(t, ahead+"signal a 1\nshow a\n\n")
	isLong(t, ahead+"signal a 1\nshow a\nshow a")
	// A plan's lines are lines too.
	plan := "signal a 1 2\nplan o 2 a\n" + strings.TrimSuffix(smallBenchPlan, "end")
	lines := strings.Count(plan, "\n") + 2
	isNotLong(t, plan+strings.Repeat("\n", maxBenchLines-lines)+"end\nshow o\n", "a 2\no 2\n2 4\n")
	isLong(t, plan+strings.Repeat("\n", maxBenchLines-lines+1)+"end\nshow o\n")
}

func TestBenchBothLimitsAtOnce(t *testing.T) {
	text := strings.Repeat("\n", maxBenchLines-2) + "signal a 1\n#"
	text += strings.Repeat("x", maxBench-len(text)-1) + "\n"
	isNotLong(t, text, "a 1\n")
	isLong(t, text+"\n")
	isLong(t, "\n"+text)
	isLong(t, text[1:]+"xx")
	isNotLong(t, text[1:]+"x", "a 1\nno\n")
}

// As many bytes as fit in a line of signal are read.
func TestBenchLongLines(t *testing.T) {
	for _, x := range []string{"0", "-9", "1000000", "-9999999"} {
		count := min(maxSignal, (maxBench-30)/(len(x)+1))
		says(t, "signal a"+strings.Repeat(" "+x, count)+"\n", "a "+textOfInts(count))
	}
	says(t, "signal a"+strings.Repeat(" 1", (maxBench-8)/2), "no")
	says(t, "join a"+strings.Repeat(" a", (maxBench-8)/2), "no")
	says(t, "plan a 1"+strings.Repeat(" a", (maxBench-8)/2), "no")
	says(t, strings.Repeat(" ", maxBench), "no")
	says(t, "show "+strings.Repeat("a", maxBench-5), "no")
	says(t, "send a 2 1 "+strings.Repeat("a", maxBench-11), "no")
	says(t, "num "+strings.Repeat("1", maxBench-9)+" half", "no")
	says(t, "qty "+strings.Repeat("1", maxBench-8)+" + 1", "no")
	isLong(t, "send a 2 1 "+strings.Repeat("a", maxBench-10))
}
