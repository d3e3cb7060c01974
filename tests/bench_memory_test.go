package tests

import (
	"runtime"
	"slices"
	"strings"
	"sync"
	"testing"
	"unsafe"

	"loop.example/g00043/impl"
)

// copiesAhead has a list twice, once each way in which a line tells just what is there.
var copiesAhead = linesOf("signal a 1 2 3", "tone none 0 0 0", "filter b a 1", "join c a none", "join d none a", "rate e a 1 1", "lift f a 2 0", "unlift g a 2 0", "lift h none 1 8", "join i none none", "filter j none 1", "lift k a 1 8", "unlift k k 1 8", "signal one 7", "lift l one 3 8", "unlift m one 3 8", "add n none none") +
	planText("o", 3, "a", "node x in", "node y out", "link x -> y") + planText("p", 0, "", "node y in") + linesOf("send q 2 1 A", "join q q none", "rate s none 16 16")

func listsOf(named []impl.Named) [][]int {
	told := [][]int{}
	for _, k := range named {
		told = append(told, k.List)
	}
	return told
}

func cloned(named []impl.Named) []impl.Named {
	told := []impl.Named{}
	for _, k := range named {
		told = append(told, impl.Named{Name: strings.Clone(k.Name), List: slices.Clone(k.List)})
	}
	return told
}

func sameNamed(a, b []impl.Named) bool {
	return slices.EqualFunc(a, b, func(a, b impl.Named) bool { return a.Name == b.Name && slices.Equal(a.List, b.List) })
}

// newOfBench writes over what Signals tells, and wants it as it was once more.
func newOfBench(t *testing.T, text string) {
	t.Helper()
	first := impl.Signals(text)
	want := cloned(first)
	second := impl.Signals(text)
	overwrite(t, listsOf(first))
	full := first[:cap(first)]
	for at := range full {
		full[at] = impl.Named{Name: "over", List: []int{-1}}
	}
	if !sameNamed(second, want) {
		t.Errorf("two answers of Signals of %.200q share memory: %v, not %v", text, second, want)
	}
	if again := impl.Signals(text); !sameNamed(again, want) {
		t.Errorf("Signals of %.200q, asked again, are %v, not %v", text, again, want)
	}
	benchHolds(t, text)
}

func TestBenchSignalsAreNewMemory(t *testing.T) {
	newOfBench(t, copiesAhead)
	newOfBench(t, "")
	newOfBench(t, strings.Repeat("\n", maxBenchLines+1))
	newOfBench(t, linesOf(namedLines(maxNamed)...))
	newOfBench(t, "signal a 1 2\nrate a a 1 1\nlift a a 1 0\nfilter a a 1\njoin b a a\nlift b b 2 0\n")
	manyBenches(2241, 10, func(_ *formSource, text string) { newOfBench(t, text) })
}

// sharesBytes asks whether a text lies in another one.
func sharesBytes(text, in string) bool {
	from, at := uintptr(unsafe.Pointer(unsafe.StringData(in))), uintptr(unsafe.Pointer(unsafe.StringData(text)))
	return len(text) > 0 && at >= from && at < from+uintptr(len(in))
}

// A name that lay in the text would keep the whole of it.
func TestBenchTextsAreNewMemory(t *testing.T) {
	manyBenches(2242, 10, func(_ *formSource, text string) {
		text = strings.Clone(text)
		if sharesBytes(impl.Session(text), text) {
			t.Errorf("what is said of %.200q lies in it", text)
		}
		for _, k := range impl.Signals(text) {
			if sharesBytes(k.Name, text) {
				t.Fatalf("the name %q lies in the text", k.Name)
			}
		}
	})
}

// Nothing is kept: each text begins with an empty bench, whatever has been asked ahead.
func TestBenchKeepsNothing(t *testing.T) {
	g := formSource(2243)
	full := linesOf(namedLines(maxNamed)...)
	texts := []string{benchAhead, copiesAhead, loudAhead, full, "plan x 1 a\n", "plan", strings.Repeat("x", maxBench+1), "", "signal a 9\nplan q 1 a\nnode x in\n"}
	for _, text := range texts {
		for range 4 {
			impl.Session(texts[g.below(len(texts))])
			impl.Signals(texts[g.below(len(texts))])
			says(t, "show a\nshow n0\nmean none\nsignal z 1\nshow z\n", "no", "no", "no", "z 1", "1")
			benchHolds(t, text)
			newOfBench(t, text)
			says(t, "end\nshow z\n", "no", "no")
		}
	}
	for range 2 * maxNamed {
		impl.Session(full + "signal x 1\n")
		says(t, "signal x 1\n", "x 1")
	}
}

// Both are asked by several at once, of the same text and of others.
func TestBenchAskedAtOnce(t *testing.T) {
	texts := []string{benchAhead, copiesAhead, loudAhead, linesOf(namedLines(maxNamed)...) + "signal x 1\n", "signal a 1\n" + planText("o", 3, "a", doubled...) + "show o\n", strings.Repeat("\n", maxBenchLines+1), "send s 8 8 hello\nhear s 8 8 5\nnum 0.1 double\nqty 2V * 3s\npack s 7\nbin s 3\nmean s\npeaks s 3 1\n"}
	var all sync.WaitGroup
	for at := range 4 * len(texts) {
		text := texts[at%len(texts)]
		want := benchSlow(text)
		all.Go(func() {
			for range 10 {
				said, list := impl.Session(text), impl.Signals(text)
				if said != want.said || !sameSignals(list, want.names, want.lists) {
					t.Errorf("%.200q, asked by several at once, says %.200q and leaves %v", text, said, list)
				}
				overwrite(t, listsOf(list))
			}
		})
	}
	all.Wait()
}

func TestBenchNoGoroutineGoesOn(t *testing.T) {
	ahead := runtime.NumGoroutine()
	manyBenches(2244, 3, func(_ *formSource, text string) {
		impl.Session(text)
		impl.Signals(text)
		if left := leftBehind(ahead); left > 0 {
			t.Fatalf("%d goroutines go on behind %.200q", left, text)
		}
	})
}

// No text makes it panic, nor go on for ever: of any bytes it says what the oracle says.
func TestBenchOfAnyBytes(t *testing.T) {
	g := formSource(2245)
	words := []string{"signal", "tone", "filter", "join", "add", "rate", "lift", "unlift", "show", "peaks", "bin", "mean", "pack", "num", "qty", "send", "hear", "plan", "end", "a", "b", "1", "-1", "4", "0", "half", "+", "\n", "\n", "\n", "#", "", "\xff", "node x in", "1V"}
	for range 300 {
		text := ""
		for range g.below(60) {
			text += words[g.below(len(words))] + []string{" ", " ", " ", "\n", ""}[g.below(5)]
		}
		benchHolds(t, text)
		benchHolds(t, string(g.bytes(g.below(200))))
		benchHolds(t, "signal a 1 2 3\n"+g.mutated(text, 3, words))
	}
}
