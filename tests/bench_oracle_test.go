package tests

import (
	"math/big"
	"regexp"
	"slices"
	"strconv"
	"strings"
	"sync"
	"testing"

	"loop.example/g00043/impl"
)

// The oracle of the bench: each line is held against patterns as a whole, and what it does is worked out by the oracles of the layers that it names.

const (
	maxBench      = impl.MaxBench
	maxBenchLines = impl.MaxBenchLines
	maxNamed      = impl.MaxNamed
	maxKept       = 1000000000000000
)

const decimalPattern = `(?:0|-?[1-9][0-9]{0,9})`

// benchForms are a line's words: OUT and IN are names, N is a number, and INS and NS are any number of them.
var benchForms = []string{
	"signal OUT N NS", "tone OUT N N N", "filter OUT IN N NS", "join OUT IN IN", "add OUT IN IN", "rate OUT IN N N", "lift OUT IN N N", "unlift OUT IN N N", "show IN", "peaks IN N N", "bin IN N", "mean IN", "pack IN N",
	"num TEXT TEXT", "qty TEXT TEXT TEXT", "send OUT N N TEXT", "hear IN N N N", "plan OUT N INS",
}

func groupsOf(form string) []string { return strings.Fields(form)[1:] }

var benchPatterns = sync.OnceValue(func() []*regexp.Regexp {
	told := []*regexp.Regexp{}
	for _, form := range benchForms {
		pattern := strings.Fields(form)[0]
		for _, group := range groupsOf(form) {
			pattern += map[string]string{"OUT": " ([^ ]+)", "IN": " ([^ ]+)", "TEXT": " ([^ ]+)", "N": " (" + decimalPattern + ")", "NS": "((?: " + decimalPattern + ")*)", "INS": "((?: [^ ]+)*)"}[group]
		}
		told = append(told, regexp.MustCompile("^"+pattern+"$"))
	}
	return told
})

// A slowBench has its signals by name, and the names in their order.
type slowBench struct {
	names []string
	lists map[string][]int
	said  string
}

// slowWords are what a line's words tell; lines are those of a plan.
type slowWords struct {
	out   string
	ins   [][]int
	n     []int
	texts []string
	lines []string
	ended bool
}

func (b *slowBench) addWord(w *slowWords, group, word string) bool {
	switch group {
	case "OUT":
		w.out = word
		return nameSlow(word)
	case "IN", "INS":
		list, ok := b.lists[word]
		w.ins = append(w.ins, list)
		return ok
	case "N", "NS":
		n, _ := strconv.Atoi(word)
		w.n = append(w.n, n)
		return true
	}
	w.texts = append(w.texts, word)
	return true
}

// wordsOf says which of benchForms a line has.
func (b *slowBench) wordsOf(line string) (string, slowWords, bool) {
	for at, pattern := range benchPatterns() {
		parts := pattern.FindStringSubmatch(line)
		if parts == nil {
			continue
		}
		w := slowWords{}
		for place, group := range groupsOf(benchForms[at]) {
			for word := range strings.SplitSeq(strings.TrimPrefix(parts[place+1], " "), " ") {
				if word != "" && !b.addWord(&w, group, word) {
					return "", w, false
				}
			}
		}
		return strings.Fields(benchForms[at])[0], w, true
	}
	return "", slowWords{}, false
}

func areSlow(list []int, most int) bool {
	return !slices.ContainsFunc(list, func(x int) bool { return x > most || x < -most })
}

func isSignalSlow(list []int) bool { return len(list) <= maxSignal && areSlow(list, maxSample) }

// onceBackSlow takes from each low number what the high ones have added; an odd number is a high one less what that would be of 0.
func onceBackSlow(kind int, low, high []int) []int {
	list := make([]int, len(low)+len(high))
	for i, x := range low {
		list[2*i] = x
		switch {
		case len(high) == 0 || kind == impl.LiftMean && i == len(high):
		case kind == impl.LiftMean:
			list[2*i] -= downBy(sumBig(high[i]), 2)
		default:
			list[2*i] -= downBy(sumBig(high[max(i-1, 0)], high[min(i, len(high)-1)], 2), 4)
		}
	}
	for i, x := range high {
		list[2*i+1] = x - highSlow(kind, list, i)
	}
	return list
}

func unliftSlow(kind int, list []int, levels int) []int {
	if levels == 0 || len(list) <= 1 {
		return list
	}
	half := (len(list) + 1) / 2
	return onceBackSlow(kind, unliftSlow(kind, list[:half], levels-1), list[half:])
}

func sumsSlow(a, b []int) []int {
	told := []int{}
	for at, x := range a {
		if at < len(b) {
			told = append(told, x+b[at])
		}
	}
	return told
}

func isLifting(w slowWords) bool {
	return slices.Contains(liftings, w.n[0]) && w.n[1] >= 0 && w.n[1] <= maxLevels && len(w.ins[0]) <= maxSignal
}

func benchModemOf(w slowWords) (impl.Modem, bool) {
	m := impl.Modem{Width: w.n[0], Mend: w.n[1], Rows: 4, Seed: 1, Rate: 1, Size: 10}
	return m, slices.Contains([]int{2, 4, 6, 8}, m.Width) && m.Mend >= 1 && m.Mend <= maxMend
}

func sendLineSlow(w slowWords) ([]int, bool) {
	m, ok := benchModemOf(w)
	if !ok || len(w.texts[0]) > maxSent {
		return nil, false
	}
	told := []int{}
	for _, p := range sendSlow(m, []byte(w.texts[0])) {
		told = append(told, p.X, p.Y)
	}
	return told, true
}

func planLineSlow(w slowWords) ([]int, bool) {
	p, code := parsePlanSlow(strings.Join(append(w.lines, ""), "\n"))
	if !w.ended || code != 0 {
		return nil, false
	}
	rows, ok := playSlow(p, w.ins, w.n[0])
	return slices.Concat(rows...), ok
}

// tellsSlow is the signal that a line tells; of a line that tells none it is not asked.
func tellsSlow(word string, w slowWords) ([]int, bool) {
	switch word {
	case "signal":
		return w.n, true
	case "tone":
		if !areSlow(w.n[:2], maxSample) || w.n[1] < 0 || w.n[2] < 0 || w.n[2] > maxSignal {
			return nil, false
		}
		return toneBig(w.n[0], 0, w.n[1], w.n[2]), true
	case "filter":
		if len(w.n) > maxTaps || !areSlow(w.n, maxTap) || !isSignalSlow(w.ins[0]) {
			return nil, false
		}
		told, _ := firSlow(w.n, make([]int, len(w.n)-1), w.ins[0])
		return told, true
	case "join":
		return append(slices.Clone(w.ins[0]), w.ins[1]...), true
	case "add":
		return sumsSlow(w.ins[0], w.ins[1]), true
	case "rate":
		if min(w.n[0], w.n[1]) < 1 || max(w.n[0], w.n[1]) > impl.MaxRate || !isSignalSlow(w.ins[0]) || !areSlow(w.ins[0], maxTap) {
			return nil, false
		}
		return rationalSlow(w.ins[0], slices.Repeat([]int{1}, w.n[0]), w.n[0], w.n[1]), true
	case "lift":
		if !isLifting(w) || !areSlow(w.ins[0], maxSample) {
			return nil, false
		}
		return liftSlow(w.n[0], w.ins[0], w.n[1]), true
	case "unlift":
		if !isLifting(w) || !areSlow(w.ins[0], maxLifted) {
			return nil, false
		}
		return unliftSlow(w.n[0], w.ins[0], w.n[1]), true
	case "send":
		return sendLineSlow(w)
	}
	return planLineSlow(w)
}

func textOfInts(list ...int) string {
	words := []string{}
	for _, x := range list {
		words = append(words, strconv.Itoa(x))
	}
	return strings.Join(words, " ")
}

// shortText is ShowShort of any bits.
func (s formShape) shortText(bits uint64) string {
	switch {
	case s.isNan(bits):
		return "nan"
	case s.isInf(bits):
		return signOf(s.isNeg(bits)) + "inf"
	case s.isZero(bits):
		return signOf(s.isNeg(bits)) + "0"
	}
	return s.short(bits)
}

// meanSlow rounds each sum to as many bits as a float64 has.
func meanSlow(list []int) float64 {
	sum := new(big.Float).SetPrec(53)
	for _, x := range list {
		sum.Add(sum, new(big.Float).SetInt64(int64(x)))
	}
	mean, _ := sum.Quo(sum, new(big.Float).SetInt64(int64(len(list)))).Float64()
	return mean
}

func numLineSlow(w slowWords) (string, bool) {
	at := slices.Index([]string{"half", "single", "double"}, w.texts[1])
	if at < 0 {
		return "", false
	}
	answer, ok := formShapes[at].read(w.texts[0])
	return formShapes[at].shortText(answer[0].bits) + " " + strconv.Itoa(answer[0].flags), ok
}

func qtyLineSlow(w slowWords) (string, bool) {
	a, okA := readQtySlow(w.texts[0])
	b, okB := readQtySlow(w.texts[2])
	if !okA || !okB || w.texts[1] != "+" && w.texts[1] != "*" {
		return "", false
	}
	q, ok := mulQtySlow(a, b)
	if w.texts[1] == "+" {
		q, ok = addQtySlow(a, b)
	}
	return showQtySlow(q), ok && showQtySlow(q) != ""
}

func hearLineSlow(w slowWords) (string, bool) {
	m, ok := benchModemOf(w)
	if !ok || len(w.ins[0])%2 != 0 || w.n[2] < 1 || w.n[2] > maxSent || !areSlow(w.ins[0], maxSample) {
		return "", false
	}
	burst := []impl.Point{}
	for pair := range slices.Chunk(w.ins[0], 2) {
		burst = append(burst, impl.Point{X: pair[0], Y: pair[1]})
	}
	b, mended, ok := hearSlow(m, burst, w.n[2])
	if slices.ContainsFunc(b, func(c byte) bool { return c <= ' ' || c >= 127 }) {
		return "", false
	}
	return string(b) + " " + strconv.Itoa(mended), ok
}

func peaksLineSlow(w slowWords) (string, bool) {
	if !isSignalSlow(w.ins[0]) || w.n[1] > w.n[0] {
		return "", false
	}
	words := []string{}
	for _, p := range peaksSlow(w.ins[0], w.n[0], w.n[1]) {
		words = append(words, textOfInts(p.At)+":"+textOfInts(p.Size))
	}
	if len(words) == 0 {
		words = []string{"none"}
	}
	return strings.Join(words, " "), true
}

// saysSlow is what a line says that tells no signal.
func saysSlow(word string, w slowWords) (string, bool) {
	switch word {
	case "show":
		if len(w.ins[0]) == 0 {
			return "empty", true
		}
		return textOfInts(w.ins[0]...), true
	case "peaks":
		return peaksLineSlow(w)
	case "bin":
		if !areSlow(w.ins[0], maxTap) || !areSlow(w.n, maxSample) {
			return "", false
		}
		x, y := binBig(w.ins[0], w.n[0])
		return textOfInts(x, y), true
	case "mean":
		if len(w.ins[0]) == 0 {
			return "", false
		}
		return formShapes[2].shortText(bitsOf(meanSlow(w.ins[0]))), true
	case "pack":
		if !isSignalSlow(w.ins[0]) || w.n[0] < 1 || w.n[0] > impl.MaxFrame {
			return "", false
		}
		b := packAllSlow(w.ins[0], w.n[0])
		return textOfInts(len(b), crcByRule(b)), true
	case "num":
		return numLineSlow(w)
	case "qty":
		return qtyLineSlow(w)
	}
	return hearLineSlow(w)
}

func (b *slowBench) keeps(name string, list []int) bool {
	if len(list) > maxSignal || !areSlow(list, maxKept) {
		return false
	}
	if _, ok := b.lists[name]; !ok {
		if len(b.names) == maxNamed {
			return false
		}
		b.names = append(b.names, name)
	}
	b.lists[name] = list
	return true
}

func (b *slowBench) doneSlow(line string, plan []string, ended bool) (string, bool) {
	word, w, ok := b.wordsOf(line)
	w.lines, w.ended = plan, ended
	if !ok {
		return "", false
	}
	if w.out == "" {
		return saysSlow(word, w)
	}
	list, ok := tellsSlow(word, w)
	if !ok || !b.keeps(w.out, list) {
		return "", false
	}
	return w.out + " " + strconv.Itoa(len(list)), true
}

func benchSlow(text string) *slowBench {
	b := &slowBench{lists: map[string][]int{}}
	lines := strings.Split(text, "\n")
	if lines[len(lines)-1] == "" {
		lines = lines[:len(lines)-1]
	}
	if len(text) > maxBench || len(lines) > maxBenchLines {
		b.said = "long\n"
		return b
	}
	for at := 0; at < len(lines); at++ {
		line, first := lines[at], at+1
		if line == "" || line[0] == '#' {
			continue
		}
		end := -1
		if line == "plan" || strings.HasPrefix(line, "plan ") {
			end = slices.Index(lines[first:], "end")
			at = first + end
			if end < 0 {
				at = len(lines)
			}
		}
		said, ok := b.doneSlow(line, slices.Clone(lines[first:max(first, first+end)]), end >= 0)
		if !ok {
			said = "no"
		}
		b.said += said + "\n"
	}
	return b
}

func sameSignals(got []impl.Named, names []string, lists map[string][]int) bool {
	return slices.EqualFunc(got, names, func(k impl.Named, name string) bool {
		return k.Name == name && slices.Equal(k.List, lists[name])
	})
}

// benchHolds wants of a text what the oracle says, and its signals.
func benchHolds(t *testing.T, text string) {
	t.Helper()
	want := benchSlow(text)
	if said := impl.Session(text); said != want.said {
		t.Errorf("Session of %.300q.. is %.300q.., not %.300q..", text, said, want.said)
	}
	if list := impl.Signals(text); !sameSignals(list, want.names, want.lists) {
		t.Errorf("Signals of %.300q.. are %v, not %v of %v", text, list, want.lists, want.names)
	}
}

// says wants these lines, which the oracle says too.
func says(t *testing.T, text string, want ...string) {
	t.Helper()
	if said := impl.Session(text); said != strings.Join(append(want, ""), "\n") {
		t.Errorf("Session of %.300q.. is %.300q.., not %.300q", text, said, want)
	}
	benchHolds(t, text)
}

// saysAlso wants of a line behind others what it says, and that these say what they say without it.
func saysAlso(t *testing.T, ahead, line, want string) {
	t.Helper()
	said := impl.Session(ahead)
	if told := impl.Session(ahead + line + "\n"); told != said+want+"\n" {
		t.Errorf("%.300q behind %.200q.. says %.300q, not %.300q", line, ahead, strings.TrimPrefix(told, said), want)
	}
	benchHolds(t, ahead+line+"\n")
}

// saysNo wants that a line does nothing: all signals stay as they were.
func saysNo(t *testing.T, ahead, line string) {
	t.Helper()
	saysAlso(t, ahead, line, "no")
	before, after := impl.Signals(ahead), impl.Signals(ahead+line+"\n")
	if !slices.EqualFunc(before, after, func(a, b impl.Named) bool { return a.Name == b.Name && slices.Equal(a.List, b.List) }) {
		t.Errorf("%.300q says no, and leaves %v, not %v", line, after, before)
	}
}

func linesOf(lines ...string) string { return strings.Join(append(lines, ""), "\n") }
