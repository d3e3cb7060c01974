package tests

import (
	"slices"
	"strings"
	"testing"

	"loop.example/g00043/impl"
)

// A benchTeller lays lines one behind the other, most of them such as may be.
type benchTeller struct {
	*formSource
	names []string
}

func (b *benchTeller) one(some ...string) string { return some[b.below(len(some))] }

func (b *benchTeller) number() string {
	return b.one("0", "1", "-1", "2", "3", "4", "8", "64", textOfInts(b.within(20)), textOfInts(b.within(maxTap)), textOfInts(b.within(maxSample)), "1000000", "9999999999", "-9999999999")
}

func (b *benchTeller) in() string { return b.one(b.names...) }

func (b *benchTeller) out() string {
	name := b.one("a", "b", "\u03c9", "A", "c1", b.name(9))
	b.names = append(b.names, name)
	return name
}

func (b *benchTeller) numbers(most int) string {
	told := b.number()
	for range b.below(most) {
		told += " " + b.number()
	}
	return told
}

func (b *benchTeller) few() string { return textOfInts(b.below(18), 1+b.below(16)) }

func (b *benchTeller) lifting() string { return textOfInts(1+b.below(3), b.below(9)) }

func (b *benchTeller) modem() string {
	return b.one("2", "4", "6", "8") + " " + textOfInts(1+b.below(maxMend))
}

func (b *benchTeller) planLines() string {
	lines := []string{"node x in", "node y " + b.one("gain -3", "delay 2", "up 3", "down 2", "fold 3"), "node z out", "link x -> y", "link y -> z", "end"}
	ins := b.one("", b.in(), b.in(), b.in(), b.in()+" "+b.in())
	return strings.TrimRight("plan "+b.out()+" "+textOfInts(b.below(9))+" "+ins, " ") + "\n" + strings.Join(lines[:len(lines)-b.below(13)/12], "\n")
}

func (b *benchTeller) line() string {
	switch b.below(23) {
	case 0, 1, 2:
		return "signal " + b.out() + " " + b.numbers(12)
	case 3:
		return "tone " + b.out() + " " + textOfInts(b.within(300), b.below(2000), b.below(40))
	case 4:
		return "filter " + b.out() + " " + b.in() + " " + b.numbers(5)
	case 5, 6:
		return b.one("join ", "add ") + b.out() + " " + b.in() + " " + b.in()
	case 7:
		return "rate " + b.out() + " " + b.in() + " " + b.few()
	case 8, 9:
		return b.one("lift ", "unlift ") + b.out() + " " + b.in() + " " + b.lifting()
	case 10, 11:
		return b.one("show ", "mean ") + b.in()
	case 12:
		return "peaks " + b.in() + " " + textOfInts(b.within(100), b.within(100))
	case 13:
		return "bin " + b.in() + " " + b.number()
	case 14:
		return "pack " + b.in() + " " + textOfInts(1+b.below(128))
	case 15:
		return "num " + b.number() + b.one("", "e3", ".25") + " " + b.one("half", "single", "double")
	case 16:
		return "qty " + b.number() + b.one("", "V", "ms") + b.one(" + ", " * ") + b.number() + b.one("", "V", "s")
	case 17:
		return "send " + b.out() + " " + b.modem() + " " + b.name(20)
	case 20:
		name, modem, word := b.out(), b.modem(), b.one("A", "hey", "#no", "signal", "~!")
		return linesOf("send "+name+" "+modem+" "+word) + "hear " + name + " " + modem + " " + textOfInts(len(word))
	case 18:
		return "hear " + b.in() + " " + b.modem() + " " + textOfInts(1+b.below(9))
	case 19:
		return b.planLines()
	}
	return b.one("", "# a", "end", "x", b.number(), "show "+b.name(3))
}

// tells is a text of about so many lines, of which some have been spoiled; it is no longer than a text may be.
func (b *benchTeller) tells(count int) string {
	text := "signal a 1 2 3\nsignal b 4\n"
	for range count - 2 {
		line := b.line()
		if b.below(8) == 0 {
			line = b.mutated(line, 1, []string{"", " ", "0", "-", "x", "\n", "\xff", "#"})
		}
		if len(text+line) >= maxBench || strings.Count(text+line, "\n") >= maxBenchLines {
			break
		}
		text += line + "\n"
	}
	return text
}

func manyBenches(seed uint64, times int, call func(g *formSource, text string)) {
	g := formSource(seed)
	for range times {
		for _, count := range []int{3, 5, 10, 30, 60, maxBenchLines} {
			b := &benchTeller{&g, []string{"a", "b"}}
			call(&g, b.tells(count))
		}
	}
}

func TestBenchByChance(t *testing.T) {
	refused, said := 0, 0
	manyBenches(2231, 60, func(_ *formSource, text string) {
		benchHolds(t, text)
		told := impl.Session(text)
		refused, said = refused+strings.Count("\n"+told, "\nno\n"), said+strings.Count(told, "\n")
	})
	if refused*10 < said || refused*10 > 8*said {
		t.Errorf("of %d lines %d say no", said, refused)
	}
}

// A text says first what its beginning says: some of its lines, or all of them but a part of the last.
func TestBenchBeginningsSayTheBeginning(t *testing.T) {
	manyBenches(2232, 6, func(_ *formSource, text string) {
		whole := impl.Session(text)
		lines := strings.SplitAfter(text, "\n")
		begun := ""
		for at, line := range lines {
			said := impl.Session(begun)
			if inPlanSlow(lines[:at]) {
				begun += line
				continue
			}
			if !strings.HasPrefix(whole, said) {
				t.Errorf("%.200q.. says %.200q.., and the first %d lines %.200q..", text, whole, at, said)
			}
			begun += line
		}
	})
}

// inPlanSlow asks whether a plan that these lines begin has not ended.
func inPlanSlow(lines []string) bool {
	open := false
	for _, line := range lines {
		line = strings.TrimSuffix(line, "\n")
		switch {
		case open && line == "end":
			open = false
		case !open && (line == "plan" || strings.HasPrefix(line, "plan ")):
			open = true
		}
	}
	return open
}

// What is not of a line changes no other one: a text goes on behind as behind any text with the same signals.
func TestBenchGoesOnFromItsSignals(t *testing.T) {
	manyBenches(2233, 10, func(g *formSource, text string) {
		if inPlanSlow(strings.SplitAfter(text, "\n")) {
			return
		}
		quiet := ""
		for line := range strings.Lines(text) {
			if line != "\n" && line[0] != '#' {
				quiet += line
			}
		}
		if inPlanSlow(strings.SplitAfter(quiet, "\n")) {
			return
		}
		if impl.Session(quiet) != impl.Session(text) {
			t.Errorf("%.200q.. says something else without its empty lines", text)
		}
	})
}

// Lines that say no, and those that tell nothing, may be left out.
func TestBenchRefusedLinesMayBeLeftOut(t *testing.T) {
	manyBenches(2234, 30, func(_ *formSource, text string) {
		if strings.Contains(text, "plan") {
			return
		}
		kept, said := "", ""
		for line := range strings.Lines(text) {
			told := strings.TrimPrefix(impl.Session(kept+line), said)
			if told != "no\n" {
				kept, said = kept+line, said+told
			}
		}
		before, after := impl.Signals(text), impl.Signals(kept)
		if !slices.EqualFunc(before, after, func(a, b impl.Named) bool { return a.Name == b.Name && slices.Equal(a.List, b.List) }) {
			t.Errorf("%.200q.. leaves %v, and without lines that say no %v", text, before, after)
		}
		left := slices.DeleteFunc(strings.SplitAfter(impl.Session(text), "\n"), func(line string) bool { return line == "no\n" })
		if strings.Join(left, "") != said {
			t.Errorf("%.200q.. says %.200q, and without lines that say no %.200q", text, left, said)
		}
	})
}

// What was lifted and unlifted is shown as it was.
func TestBenchLiftedComesBack(t *testing.T) {
	g := formSource(2235)
	for range 40 {
		for _, most := range []int{3, 1000, maxSample} {
			list := g.signal(most, 1+g.below(40))
			for _, kind := range liftings {
				levels := textOfInts(kind, g.below(maxLevels+1))
				text := linesOf(signalLine("a", list), "lift l a "+levels, "unlift a l "+levels, "show a")
				count := textOfInts(len(list))
				says(t, text, "a "+count, "l "+count, "a "+count, textOfInts(list...))
			}
		}
	}
}

// Signals are what show says of each of them.
func TestBenchSignalsAreWhatIsShown(t *testing.T) {
	manyBenches(2236, 10, func(_ *formSource, text string) {
		if inPlanSlow(strings.SplitAfter(text, "\n")) {
			return
		}
		said := impl.Session(text)
		for _, k := range impl.Signals(text) {
			want := textOfInts(k.List...)
			if len(k.List) == 0 {
				want = "empty"
			}
			more := "show " + k.Name
			if len(text+more) > maxBench || strings.Count(text, "\n") >= maxBenchLines {
				return
			}
			if told := impl.Session(text + more); told != said+want+"\n" {
				t.Errorf("%s of %.200q is shown as %.200q, not %.200q", k.Name, text, strings.TrimPrefix(told, said), want)
			}
		}
	})
}

// Every answer ends with a line end, and has as many lines as there are lines that say something.
func TestBenchSaysALineForEach(t *testing.T) {
	manyBenches(2237, 20, func(_ *formSource, text string) {
		lines := strings.SplitAfter(text, "\n")
		want := 0
		for at, line := range lines {
			if !inPlanSlow(lines[:at]) && line != "" && line != "\n" && line[0] != '#' {
				want++
			}
		}
		if said := impl.Session(text); strings.Count(said, "\n") != want || want > 0 && said[len(said)-1] != '\n' {
			t.Errorf("%.200q says %d lines, not %d", text, strings.Count(said, "\n"), want)
		}
	})
}
