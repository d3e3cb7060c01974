package tests

import (
	"strings"
	"testing"

	"loop.example/g00043/impl"
)

// loudAhead has numbers at the ends of what a signal of the bench may have: many is so many times -10^15 .. 10^15.
var loudAhead = linesOf("signal k 1000000000", "filter loud k 1000000", "filter low k -1000000", "signal one 1", "signal less -1", "signal none0 0")

func signalLine(name string, list []int) string { return "signal " + name + " " + textOfInts(list...) }

// keeps wants of the last signal told that it is such a list.
func keeps(t *testing.T, text string, name string, want ...int) {
	t.Helper()
	for _, k := range impl.Signals(text) {
		if k.Name == name {
			holdSignal(t, name+" behind "+text, k.List, true, want)
			benchHolds(t, text)
			return
		}
	}
	t.Errorf("behind %q there is no %s", text, name)
}

func TestBenchSignal(t *testing.T) {
	keeps(t, "signal a 1", "a", 1)
	keeps(t, "signal a 0 -1 9999999999 -9999999999 5", "a", 0, -1, 9999999999, -9999999999, 5)
	keeps(t, "signal a 1 2 3\nsignal a 4\n", "a", 4)
	keeps(t, "signal a 1\nsignal a\n", "a", 1)
	keeps(t, "signal a 1\nsignal a 2 x\n", "a", 1)
	says(t, linesOf("signal a", "signal", "signal a ", "signal  1", "show a"), "no", "no", "no", "no", "no")
	for _, count := range []int{1, 2, 100, maxSignal - 1, maxSignal} {
		says(t, signalLine("a", counted(count)), "a "+textOfInts(count))
	}
	for _, count := range []int{maxSignal + 1, maxSignal + 2, 2 * maxSignal, 1000} {
		saysNo(t, "signal a 1\n", "signal a"+strings.Repeat(" 7", count))
		saysNo(t, "signal a 1\n", "signal b"+strings.Repeat(" 7", count))
	}
}

func TestBenchTone(t *testing.T) {
	says(t, linesOf("tone w 64 5 4", "show w", "tone w 0 7 3", "show w", "tone w -64 5 5", "show w", "tone w 128 9 2", "show w"), "w 4", "5 0 -5 0", "w 3", "7 7 7", "w 5", "5 0 -5 0 5", "w 2", "9 -9")
	for _, line := range []string{"tone w 1 1 0", "tone w 0 0 1", "tone w 17 1000 512", "tone w 1000000000 1000000000 20", "tone w -1000000000 1000000000 20", "tone w 999999999 999999999 7", "tone w -1 0 512", "tone w 256 3 2"} {
		says(t, line, "w "+line[strings.LastIndex(line, " ")+1:])
	}
	for _, line := range []string{"tone w 1 1 513", "tone w 1 1 -1", "tone w 1 1 9999999999", "tone w 1 1 -9999999999", "tone w 1 1000000001 3", "tone w 1 -1 3", "tone w 1 9999999999 3", "tone w 1000000001 1 3", "tone w -1000000001 1 3", "tone w 9999999999 1 3", "tone w 1 1 4294967299"} {
		saysNo(t, "signal w 8\n", line)
	}
}

func TestBenchFilter(t *testing.T) {
	says(t, linesOf("signal a 1 2 3 4", "filter b a 1 -1", "show b", "filter c a 0 0 2", "show c", "filter d a 1 1 1 1 1 1 1", "show d", "filter a a 3", "show a"), "a 4", "b 4", "1 1 1 1", "c 4", "0 0 2 4", "d 4", "1 3 6 10", "a 4", "3 6 9 12")
	says(t, linesOf("tone a 0 0 0", "filter b a 1 2 3", "show b"), "a 0", "b 0", "empty")
	for _, taps := range []string{"1000000", "-1000000", "0", strings.Repeat("1 ", maxTaps-1) + "1", strings.Repeat("-9 ", maxTaps-1) + "1000000"} {
		says(t, linesOf("signal a 1 2", "filter b a "+taps), "a 2", "b 2")
	}
	for _, taps := range []string{"1000001", "-1000001", "1 1000001", "9999999999", strings.Repeat("1 ", maxTaps) + "1", strings.Repeat("0 ", maxTaps) + "0", strings.Repeat("1 ", 2*maxTaps) + "1"} {
		saysNo(t, "signal a 1 2\n", "filter b a "+taps)
		saysNo(t, "signal a 1 2\n", "filter a a "+taps)
	}
	for _, x := range []string{"1000000001", "-1000000001", "9999999999", "1 2 -9999999999"} {
		saysNo(t, "signal a "+x+"\n", "filter b a 1")
		saysNo(t, "signal a "+x+"\n", "filter b a 0")
	}
	says(t, linesOf("signal a 1000000000 -1000000000", "filter b a 1", "show b"), "a 2", "b 2", "1000000000 -1000000000")
}

// A number may be 10^15 in size, and not one more.
func TestBenchNumbersAtTheirEnds(t *testing.T) {
	keeps(t, loudAhead, "loud", maxKept)
	keeps(t, loudAhead, "low", -maxKept)
	says(t, loudAhead+linesOf("show loud", "show low", "mean loud", "mean low"), "k 1", "loud 1", "low 1", "one 1", "less 1", "none0 1", "1000000000000000", "-1000000000000000", "1e15", "-1e15")
	saysAlso(t, loudAhead, "filter x k 1000000", "x 1")
	saysAlso(t, loudAhead+"signal two 1000000000 0\n", "filter x two 1000000 1000000", "x 2")
	for _, line := range []string{"1 1000000000", "-1 -1000000000", "1000000000 1000000000"} {
		saysNo(t, loudAhead+"signal two "+line+"\n", "filter x two 1000000 1")
		saysNo(t, loudAhead+"signal two "+line+"\n", "filter x two -1000000 -1")
		saysNo(t, loudAhead+"signal two "+line+"\n", "filter two two 1000000 1")
	}
	saysAlso(t, loudAhead+"signal two -1 1000000000\n", "filter x two 1000000 1", "x 2")
	for _, line := range []string{"add x loud none0", "add x loud less", "add x low one", "add x low none0", "add x loud low", "join x loud low"} {
		saysAlso(t, loudAhead, line, "x "+textOfInts(1+strings.Count(line, "join")))
	}
	for _, line := range []string{"add x loud one", "add x one loud", "add x low less", "add x less low", "add x loud loud", "add x low low", "add loud loud one", "add one loud one"} {
		saysNo(t, loudAhead, line)
	}
	saysAlso(t, loudAhead+"add far loud less\n", "add x far one", "x 1")
	saysAlso(t, loudAhead+"join z one loud\njoin y less one\n", "add x z y", "no")
	saysAlso(t, loudAhead+"join z one loud\njoin y one less\n", "add x z y", "x 2")
}

// What is beyond a sample goes into no filter, but may be joined and added.
func TestBenchNumbersBeyondSamples(t *testing.T) {
	ahead := loudAhead + "signal big 1 1000000001\n"
	for _, line := range []string{"filter x big 1", "lift x big 1 1", "rate x big 1 1", "peaks big 1 1", "bin big 0", "pack big 5", "hear big 4 2 1", "filter x loud 1", "lift x low 1 1", "unlift x loud 1 1", "rate x loud 1 1", "peaks low 1 1", "bin loud 0", "pack low 5", "plan x 1 big\n" + smallBenchPlan, "plan x 1 low\n" + smallBenchPlan} {
		saysNo(t, ahead, line)
	}
	for _, line := range [][2]string{{"show big", "1 1000000001"}, {"mean big", "5.00000001e8"}, {"join x big loud", "x 3"}, {"add x big big", "x 2"}, {"unlift x big 1 1", "x 2"}} {
		saysAlso(t, ahead, line[0], line[1])
	}
}

func TestBenchJoin(t *testing.T) {
	says(t, linesOf("signal a 1 2", "signal b 3", "join c a b", "show c", "join c b a", "show c", "join a a a", "show a", "join b b a", "show b"), "a 2", "b 1", "c 3", "1 2 3", "c 3", "3 1 2", "a 4", "1 2 1 2", "b 5", "3 1 2 1 2")
	says(t, linesOf("tone e 0 0 0", "signal a 1", "join x e a", "show x", "join x a e", "show x", "join x e e", "show x", "join e a e", "show e"), "e 0", "a 1", "x 1", "1", "x 1", "1", "x 0", "empty", "e 1", "1")
	ahead := linesOf("tone half 0 1 256", "tone one 0 1 1", "tone none 0 0 0", "join full half half", "tone less 0 1 255")
	says(t, ahead, "half 256", "one 1", "none 0", "full 512", "less 255")
	for line, want := range map[string]string{"join x half half": "x 512", "join x full none": "x 512", "join x none full": "x 512", "join x half less": "x 511", "join full full none": "full 512"} {
		saysAlso(t, ahead, line, want)
	}
	for _, line := range []string{"join x full one", "join x one full", "join x full full", "join full full one", "join one full one", "join half full half"} {
		saysNo(t, ahead, line)
	}
}

// The sums are as long as both signals are.
func TestBenchAdd(t *testing.T) {
	says(t, linesOf("signal a 1 2 3", "signal b 10 20 30", "add c a b", "show c", "add c a a", "show c", "add a a b", "show a", "add b a b", "show b"), "a 3", "b 3", "c 3", "11 22 33", "c 3", "2 4 6", "a 3", "11 22 33", "b 3", "21 42 63")
	says(t, linesOf("signal a 1 2 3", "signal b 10", "add c a b", "show c", "add c b a", "show c", "add a a b", "show a"), "a 3", "b 1", "c 1", "11", "c 1", "11", "a 1", "11")
	says(t, linesOf("signal a 1 2 3", "tone e 0 0 0", "add c a e", "show c", "add c e a", "add c e e", "show c", "add a a e", "show a"), "a 3", "e 0", "c 0", "empty", "c 0", "c 0", "empty", "a 0", "empty")
	says(t, linesOf("tone a 0 1 512", "add b a a", "add b b b", "bin b 0"), "a 512", "b 512", "b 512", "2048 0")
	// A place that only one has is in no sum.
	saysAlso(t, loudAhead+"join z one loud\n", "add x z one", "x 1")
}

func TestBenchRate(t *testing.T) {
	says(t, linesOf("signal a 1 2 3 4", "rate r a 2 1", "show r", "rate r a 1 2", "show r", "rate r a 3 2", "show r", "rate r a 1 1", "show r", "rate a a 2 4", "show a"), "a 4", "r 8", "1 1 2 2 3 3 4 4", "r 2", "1 3", "r 6", "1 1 2 3 3 4", "r 4", "1 2 3 4", "a 2", "1 3")
	says(t, linesOf("tone e 0 0 0", "rate r e 16 1", "show r"), "e 0", "r 0", "empty")
	for _, x := range []string{"1000000", "-1000000"} {
		saysAlso(t, "signal a "+x+"\n", "rate r a 16 16", "r 1")
	}
	for _, line := range []string{"rate r a 0 1", "rate r a 1 0", "rate r a 17 1", "rate r a 1 17", "rate r a -1 1", "rate r a 1 -1", "rate r a 9999999999 1", "rate r a 1 9999999999", "rate r a -9999999999 1", "rate r a 17 17", "rate a a 0 0", "rate r a 4294967297 1"} {
		saysNo(t, "signal a 1 2\nsignal r 5\n", line)
	}
	for _, x := range []string{"1000001", "-1000001", "1 2 1000001", "9999999999"} {
		saysNo(t, "signal a "+x+"\n", "rate r a 1 1")
		saysNo(t, "signal a "+x+"\n", "rate a a 2 16")
	}
}

// A rate may tell as many numbers as a signal may have.
func TestBenchRateAtMaxSignal(t *testing.T) {
	for _, sizes := range [][3]int{{32, 16, 1}, {512, 1, 1}, {512, 16, 16}, {256, 2, 1}, {170, 3, 1}, {341, 3, 2}, {512, 1, 16}, {64, 16, 2}} {
		told := (sizes[0]*sizes[1] + sizes[2] - 1) / sizes[2]
		says(t, linesOf("tone a 3 9 "+textOfInts(sizes[0]), "rate r a "+textOfInts(sizes[1], sizes[2])), "a "+textOfInts(sizes[0]), "r "+textOfInts(told))
	}
	for _, sizes := range [][3]int{{33, 16, 1}, {257, 2, 1}, {171, 3, 1}, {342, 3, 2}, {512, 2, 1}, {512, 16, 15}, {512, 16, 1}, {65, 16, 2}} {
		ahead := "tone a 3 9 " + textOfInts(sizes[0]) + "\n"
		saysNo(t, ahead, "rate r a "+textOfInts(sizes[1], sizes[2]))
		saysNo(t, ahead, "rate a a "+textOfInts(sizes[1], sizes[2]))
	}
}

func TestBenchLift(t *testing.T) {
	says(t, linesOf("signal a 1 2 3 4", "lift l a 1 1", "show l", "unlift u l 1 1", "show u", "lift l a 2 8", "unlift u l 2 8", "show u", "lift a a 3 2", "unlift a a 3 2", "show a"), "a 4", "l 4", "1 3 1 1", "u 4", "1 2 3 4", "l 4", "u 4", "1 2 3 4", "a 4", "a 4", "1 2 3 4")
	says(t, linesOf("tone e 0 0 0", "lift l e 1 8", "show l", "unlift u e 3 8", "show u", "signal a 7", "lift l a 2 8", "show l"), "e 0", "l 0", "empty", "u 0", "empty", "a 1", "l 1", "7")
	ahead := linesOf("signal a 5 -3 8 2 9", "signal l 4", "signal loud 1000000000 -1000000000", "signal far 8000000000 -8000000000 0", "signal over 1000000001", "signal under 5 -1000000001", "signal past 8000000001", "signal below 0 -8000000001")
	for _, kind := range []string{"1", "2", "3"} {
		for levels := range maxLevels + 1 {
			text := textOfInts(levels)
			saysAlso(t, ahead, "lift l a "+kind+" "+text+"\nunlift u l "+kind+" "+text+"\nshow u", "l 5\nu 5\n5 -3 8 2 9")
			saysAlso(t, ahead, "lift l loud "+kind+" "+text+"\nunlift u l "+kind+" "+text+"\nshow u", "l 2\nu 2\n1000000000 -1000000000")
			saysAlso(t, ahead, "unlift l far "+kind+" "+text, "l 3")
		}
		for _, word := range []string{"lift", "unlift"} {
			for _, levels := range []string{"9", "-1", "10", "9999999999", "-9999999999", "4294967296"} {
				saysNo(t, ahead, word+" l a "+kind+" "+levels)
			}
			for _, name := range []string{"past", "below"} {
				saysNo(t, ahead, word+" l "+name+" "+kind+" 0")
				saysNo(t, ahead, word+" "+name+" "+name+" "+kind+" 1")
			}
		}
		for _, name := range []string{"over", "under", "far"} {
			saysNo(t, ahead, "lift l "+name+" "+kind+" 1")
			saysNo(t, ahead, "lift l "+name+" "+kind+" 0")
		}
		saysAlso(t, ahead, "unlift l over "+kind+" 1", "l 1")
	}
	for _, kind := range []string{"0", "4", "-1", "5", "9999999999", "4294967297", "-9999999999"} {
		saysNo(t, ahead, "lift l a "+kind+" 1")
		saysNo(t, ahead, "unlift l a "+kind+" 1")
	}
}

// A signal may be told anew by a line that asks it, whatever told it first.
func TestBenchSignalsToldAnew(t *testing.T) {
	lines := []string{"signal a 4 3 2 1", "tone a 0 3 5", "filter a a 1 1", "join a a a", "add a a a", "rate a a 2 3", "lift a a 1 2", "unlift a a 1 2", "plan a 2 a\n" + smallBenchPlan, "send a 2 1 A"}
	for _, first := range append(lines[:2:2], lines[9]) {
		text := linesOf("signal b 1", first)
		for _, line := range lines {
			benchHolds(t, text+line+"\nshow a\n")
			list := impl.Signals(text + line)
			if len(list) != 2 || list[0].Name != "b" || list[1].Name != "a" || list[0].List[0] != 1 {
				t.Errorf("%q behind %q leaves %v", line, text, list)
			}
		}
	}
}

// Signals are told in the order in which they were made for the first time.
func TestBenchSignalsOrder(t *testing.T) {
	for text, want := range map[string]string{
		"":                                          "",
		"signal b 1\nsignal a 2\nsignal c 3":        "b a c",
		"signal b 1\nsignal a 2\nsignal b 3":        "b a",
		"signal b 1\nsignal a 2\njoin b a a":        "b a",
		"signal z 1\nsignal b x\nsignal a 2\n":      "z a",
		"signal b\nsignal a 2\nsignal b 1\n":        "a b",
		"tone \u03c9 1 1 1\nsignal A 1\nsignal a 1": "\u03c9 A a",
		"show a\nsignal b 1\nshow b\nsignal a 1":    "b a",
	} {
		names := []string{}
		for _, k := range impl.Signals(text) {
			names = append(names, k.Name)
		}
		if strings.Join(names, " ") != want {
			t.Errorf("the signals of %q are %v, not %s", text, names, want)
		}
		benchHolds(t, text)
	}
}
