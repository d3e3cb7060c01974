package tests

import (
	"strings"
	"testing"

	"loop.example/g00043/impl"
)

// benchAhead has a signal, an empty one, one of one number, and what was sent.
var benchAhead = linesOf("signal a 3 1 -2 7", "tone none 0 0 0", "signal one 5", "send sent 4 2 hey")

const smallBenchPlan = "node x in\nnode y gain 2\nnode z out\nlink x -> y\nlink y -> z\nend"

// benchSaid is each line but a plan with as few words as it may have, and what it says behind benchAhead.
var benchSaid = [][2]string{
	{"signal x 1", "x 1"}, {"tone x 64 5 4", "x 4"}, {"filter x a 2", "x 4"}, {"join x a one", "x 5"}, {"add x a one", "x 1"}, {"rate x a 2 1", "x 8"}, {"lift x a 2 1", "x 4"}, {"unlift x a 2 1", "x 4"},
	{"show a", "3 1 -2 7"}, {"peaks a 3 2", "0:3 3:7"}, {"bin a 0", "9 0"}, {"mean a", "2.25e0"}, {"pack a 4", "7 0"}, {"num 0.1 half", "1e-1 1"}, {"qty 2V + 3V", "5 V"}, {"qty 2V * 3s", "6 V*s"},
	{"send x 4 2 hey", "x 30"}, {"hear sent 4 2 3", "hey 0"},
}

func TestBenchLinesSay(t *testing.T) {
	all, want := benchAhead, []string{"a 4", "none 0", "one 1", "sent 30"}
	for _, line := range benchSaid {
		saysAlso(t, benchAhead, line[0], line[1])
		all, want = all+line[0]+"\n", append(want, line[1])
	}
	says(t, all, want...)
	saysAlso(t, benchAhead, "plan x 3 a\n"+smallBenchPlan, "x 3")
}

// Of a signal and a filter there may be more words.
func TestBenchLinesWithOtherWords(t *testing.T) {
	for _, line := range benchSaid {
		words := strings.Split(line[0], " ")
		for count := 1; count < len(words); count++ {
			saysNo(t, benchAhead, strings.Join(words[:count], " "))
		}
		for at := range words[1:] {
			left := append(append([]string{}, words[:at+1]...), words[at+2:]...)
			if left[0] != "num" && left[0] != "qty" {
				saysNo(t, benchAhead, strings.Join(left, " "))
			}
		}
		for _, more := range []string{"a", "x", "V", "#", "end", "\xff"} {
			saysNo(t, benchAhead, line[0]+" "+more)
		}
		if words[0] != "signal" && words[0] != "filter" {
			saysNo(t, benchAhead, line[0]+" 1")
			saysNo(t, benchAhead, line[0]+" 0 0")
		}
	}
	saysAlso(t, benchAhead, "signal x 1 0", "x 2")
	saysAlso(t, benchAhead, "filter x a 2 0 1", "x 4")
}

// Words have one blank of ASCII between each two, and none ahead or behind.
func TestBenchLinesWithOtherBlanks(t *testing.T) {
	for _, line := range append(benchSaid, [2]string{"plan x 3 a", ""}) {
		words := strings.Split(line[0], " ")
		for at := range words[1:] {
			ahead, behind := strings.Join(words[:at+1], " "), strings.Join(words[at+1:], " ")
			for _, blank := range []string{"", "  ", "   ", "\t", " \t", "\u00a0", "\u2003", "\u3000", "\u0085", "\u200b", "\v", "\f", "\r", "\x00", "_", ",", "\xa0", "\xff"} {
				told := ahead + blank + behind
				if strings.HasPrefix(told, "plan ") {
					told += "\n" + smallBenchPlan
				}
				// A word may have a tab ahead of it, as any byte that is no blank.
				if blank != " \t" || behind != "hey" {
					saysNo(t, benchAhead, told)
				}
			}
		}
	}
	for _, line := range benchSaid {
		for _, blank := range []string{" ", "  ", "\t", "\r", "\v", "\u00a0", "\ufeff", "\x00", "\xff"} {
			saysNo(t, benchAhead, blank+line[0])
			if line[0] != "send x 4 2 hey" || blank[0] == ' ' {
				saysNo(t, benchAhead, line[0]+blank)
			}
		}
	}
}

func TestBenchLinesThatAreNone(t *testing.T) {
	for _, line := range benchSaid {
		word, rest, _ := strings.Cut(line[0], " ")
		for _, other := range []string{word[1:], word[:len(word)-1], word + "s", word + "\u0301", strings.ToUpper(word), strings.ToUpper(word[:1]) + word[1:], "", "\xff" + word, word + "\xff", "#" + word + "\nx", word + ":"} {
			saysNo(t, benchAhead, other+" "+rest)
		}
	}
	for _, line := range []string{
		"end", "end ", " end", "end end", "a", "x 1", "no", "long", "empty", "node x in", "node x out", "link a -> one", "a 4", "1", "-", "signal", "show", "mean", "num", "plans x 1 a", "Plan x 1 a", " ", "  ", "\t", "\r", "\x00", "\ufeff", " #", "\t# a",
		"\xff", "\x80", "\xc3", "\xed\xa0\x80", "\u00e9", "\u2028", "show\u2028a", "show a\u0000", "signal a=1", "signal(a) 1", "SIGNAL a 1", "session", "signals", "help",
	} {
		saysNo(t, benchAhead, line)
	}
}

// What an empty line, or one that begins with #, says is nothing.
func TestBenchLinesThatSayNothing(t *testing.T) {
	for _, line := range []string{"", "#", "##", "# signal a 1", "#signal a 1", "#\xff", "# plan x 1 a", "#plan x 1", "#end", "# ", "#\t", "#\u03c9", "#" + strings.Repeat("a", 1200)} {
		says(t, line)
		says(t, line+"\n")
		says(t, "\n"+line+"\n\n")
		says(t, linesOf("signal a 1", line, "show a"), "a 1", "1")
		says(t, linesOf("signal a 1", line, line, "show a")+line, "a 1", "1")
		says(t, linesOf(line, line)+"show a", "no")
	}
	says(t, "")
	says(t, "\n")
	says(t, strings.Repeat("\n", maxBenchLines))
}

func TestBenchLastLineWithoutItsEnd(t *testing.T) {
	for _, line := range benchSaid {
		if said := impl.Session(benchAhead + line[0]); said != impl.Session(benchAhead)+line[1]+"\n" {
			t.Errorf("%q as the last line without an end says %q", line[0], said)
		}
		benchHolds(t, benchAhead+line[0])
	}
	says(t, "signal a 1", "a 1")
	says(t, "signal a 1\nshow a", "a 1", "1")
	says(t, "signal a 1\nshow", "a 1", "no")
	says(t, "signal a 1\n ", "a 1", "no")
	says(t, "show a\nsignal a 1", "no", "a 1")
	says(t, "a", "no")
	says(t, benchAhead+"plan x 3 a\n"+smallBenchPlan, "a 4", "none 0", "one 1", "sent 30", "x 3")
}

// Lines end with a line feed alone.
func TestBenchLineEnds(t *testing.T) {
	says(t, "signal a 1\r\nshow a\r\n", "no", "no")
	says(t, "signal a 1\rshow a", "no")
	says(t, "signal a 1\n\rshow a\n", "a 1", "no")
	says(t, "\r\n", "no")
	says(t, "signal a 1\u2028show a\u2029", "no")
	says(t, "signal a 1\vshow a\n", "no")
	says(t, "signal a 1;show a\n", "no")
	says(t, "signal a 1\\nshow a\n", "no")
}

func TestBenchNames(t *testing.T) {
	for _, name := range []string{"a", "Z", "\u00e9", "\u03c9", "\u03a9", "mix_1", "a__", "\u00c0", "\u024f", "abcdefghijkl", strings.Repeat("\u03c9", 12), "signal", "plan", "end", "in", "node", "empty", "none", "no", "long", "OUT", "e1", "inf", "half", "V"} {
		says(t, linesOf("signal "+name+" 7", "show "+name, "join "+name+" "+name+" "+name, "mean "+name), name+" 1", "7", name+" 2", "7e0")
	}
	for _, name := range []string{
		"1", "9a", "_", "_a", "-a", "a-b", "a.b", "a+", "a:b", "#a", "a#", "->", "abcdefghijklm", strings.Repeat("\u03c9", 13), "\u00d7", "\u00f7", "\u03a2", "\u0250", "\u03ca", "\u0390", "\u00b5", "a\u00b5", "e\u0301", "\u0430", "a\u0430",
		"\xff", "a\xff", "\xce", "a\xce", "\xed\xa0\x80", "a\u00a0", "\u0663", "a\u0663", "a\x00", "a\t", "\ufeffa", "\u540d",
	} {
		saysNo(t, benchAhead, "signal "+name+" 7")
		saysNo(t, benchAhead, "join "+name+" a a")
		saysNo(t, benchAhead, "show "+name)
		saysNo(t, benchAhead, "join x a "+name)
		saysNo(t, benchAhead, "join x "+name+" a")
		saysNo(t, benchAhead, "plan "+name+" 3 a\n"+smallBenchPlan)
		saysNo(t, benchAhead, "plan x 3 "+name+"\n"+smallBenchPlan)
	}
}

// Names are the same with the same runes alone.
func TestBenchNamesThatLookAlike(t *testing.T) {
	says(t, linesOf("signal a 1", "signal A 2", "signal \u03b1 3", "signal \u0391 4", "signal \u00e1 5", "show a", "show A", "show \u03b1", "show \u0391", "show \u00e1", "show \u03ac"), "a 1", "A 1", "\u03b1 1", "\u0391 1", "\u00e1 1", "1", "2", "3", "4", "5", "no")
	says(t, linesOf("signal ab 1", "show a", "show abc", "show b", "signal a_ 2", "show a", "show ab"), "ab 1", "no", "no", "no", "a_ 1", "no", "1")
	says(t, linesOf("signal \u0101 1", "signal \u0201 2", "show \u0101", "show \u0201", "show A"), "\u0101 1", "\u0201 1", "1", "2", "no")
}

func TestBenchNamesByRunes(t *testing.T) {
	for from := rune(0); from < 1100; from += 20 {
		text, ok := "", 0
		for r := from; r < from+20; r++ {
			text += "signal " + string(r) + " 1\n"
			if r != '\n' && letterSlow(r) {
				ok++
			}
		}
		benchHolds(t, text)
		if list := impl.Signals(text); len(list) != ok {
			t.Errorf("of the runes from %d on %d are names, not %d", from, len(list), ok)
		}
	}
}

// A signal that is not there is none, whatever line names it.
func TestBenchSignalsThatAreNotThere(t *testing.T) {
	for _, line := range benchSaid {
		words := strings.Split(line[0], " ")
		for at, word := range words {
			if at == 0 || word != "a" && word != "one" && word != "sent" {
				continue
			}
			for _, other := range []string{"b", "A", "aa", "on", "ones", "x", "Sent", "1", "\xff"} {
				words[at] = other
				saysNo(t, benchAhead, strings.Join(words, " "))
			}
			words[at] = word
		}
		saysNo(t, "", strings.ReplaceAll(strings.ReplaceAll(line[0], "one", "b"), " a", " b")+" b")
	}
	says(t, linesOf("show a", "signal a 1", "show a"), "no", "a 1", "1")
	says(t, linesOf("join a a a", "show a", "add a a a"), "no", "no", "no")
	says(t, linesOf("signal a 01", "show a", "tone b 1 1 513", "show b"), "no", "no", "no", "no")
}

var noDecimals = []string{
	"00", "01", "-01", "-0", "-00", "+1", "+0", "--1", "-", "+", "10000000000", "-10000000000", "00000000001", "18446744073709551617", "9223372036854775808", "-9223372036854775809", "99999999999999999999999999", "1.0", "1.", ".5", "-.5", "1e0", "1e3", "0x1", "0b1", "0o7", "1_0", "1,0",
	"a", "A", "\u0661", "\uff11", "\u00b2", "\u22121", "1\u0301", "1\xff", "\xff", "1-", "1-1", "nan", "inf", "1V", "#", "1\x00", "\u00a01",
}

// Each number of each line is a decimal.
func TestBenchNumbersThatAreNoDecimals(t *testing.T) {
	for _, line := range append(benchSaid, [2]string{"signal x 1 2 3", ""}, [2]string{"filter x a 1 2 3", ""}, [2]string{"plan x 3 a\n" + smallBenchPlan, ""}) {
		first, plan, _ := strings.Cut(line[0], "\n")
		if plan != "" {
			plan = "\n" + plan
		}
		words := strings.Split(first, " ")
		for at, word := range words {
			if len(strings.Trim(word, "-0123456789")) > 0 {
				continue
			}
			for _, other := range noDecimals {
				words[at] = other
				saysNo(t, benchAhead, strings.Join(words, " ")+plan)
			}
			words[at] = word
		}
	}
}

func TestBenchNumbersThatAreDecimals(t *testing.T) {
	for _, x := range []string{"0", "1", "-1", "9", "10", "-10", "100", "-100", "999999999", "1000000000", "-1000000000", "1000000001", "9999999999", "-9999999999", "9999999998", "4294967296", "-4294967297", "2147483648"} {
		says(t, linesOf("signal a "+x, "show a", "signal b 0 "+x+" 1", "show b"), "a 1", x, "b 3", "0 "+x+" 1")
	}
}
