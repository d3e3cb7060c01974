package tests

import (
	"slices"
	"strconv"
	"strings"
	"testing"

	"loop.example/g00043/impl"
)

func TestBenchShow(t *testing.T) {
	says(t, linesOf("signal a 0", "show a", "signal a -1 0 9999999999", "show a", "tone e 5 5 0", "show e"), "a 1", "0", "a 3", "-1 0 9999999999", "e 0", "empty")
	says(t, linesOf(signalLine("a", counted(maxSignal)), "show a"), "a 512", textOfInts(counted(maxSignal)...))
	says(t, loudAhead+linesOf("join x low loud", "show x"), "k 1", "loud 1", "low 1", "one 1", "less 1", "none0 1", "x 2", "-1000000000000000 1000000000000000")
}

func TestBenchPeaks(t *testing.T) {
	ahead := linesOf("signal a 1 5 2 9 9 0 7 -3 8", "tone e 0 0 0", "signal low -5 -2 -9", "signal ends 1000000000 -1000000000")
	for line, want := range map[string]string{
		"peaks a 5 2": "3:9 6:7 8:8", "peaks a 5 3": "1:5 3:9 6:7 8:8", "peaks a 5 0": "3:9 8:8", "peaks a 5 1": "3:9 6:7 8:8", "peaks a 9 9": "3:9", "peaks a 10 0": "none", "peaks a 10 10": "none", "peaks a 9999999999 0": "none", "peaks a -9999999999 -9999999999": "3:9",
		"peaks a 0 -3": "3:9", "peaks e 0 0": "none", "peaks e 1 0": "none", "peaks low -5 -5": "1:-2", "peaks low -2 -4": "1:-2", "peaks low -1 -9": "none", "peaks ends 1000000000 -1000000000": "0:1000000000", "peaks ends -1000000000 -1000000000": "0:1000000000", "peaks ends -1000000000 0": "no",
	} {
		saysAlso(t, ahead, line, want)
	}
	for _, line := range []string{"peaks a 1 2", "peaks a 0 1", "peaks a -1 0", "peaks e 0 1", "peaks a -9999999999 9999999999", "peaks a -2 -1"} {
		saysNo(t, ahead, line)
	}
}

func TestBenchBin(t *testing.T) {
	ahead := linesOf("signal a 1 2 3 4", "tone w 64 1000 4", "tone e 0 0 0", "signal loud 1000000 -1000000", "signal over 1000001", "signal under 0 -1000001")
	for line, want := range map[string]string{
		"bin a 0": "10 0", "bin a 64": "-2 -2", "bin a 128": "-2 0", "bin a -64": "-2 2", "bin a 256": "10 0", "bin w 64": "2000 0", "bin e 17": "0 0", "bin loud 0": "0 0", "bin loud 128": "2000000 0",
	} {
		saysAlso(t, ahead, line, want)
	}
	for _, step := range []string{"1000000000", "-1000000000", "999999999", "1", "-1"} {
		benchHolds(t, ahead+"bin a "+step+"\nbin loud "+step+"\nbin w "+step)
		saysNo(t, ahead, "bin over "+step)
		saysNo(t, ahead, "bin under "+step)
	}
	for _, step := range []string{"1000000001", "-1000000001", "9999999999", "-9999999999"} {
		saysNo(t, ahead, "bin a "+step)
		saysNo(t, ahead, "bin e "+step)
	}
}

// A mean is added number by number: each sum is rounded, beginning from 0.
func TestBenchMean(t *testing.T) {
	for numbers, want := range map[string]string{
		"0": "0", "7": "7e0", "-7": "-7e0", "0 0": "0", "1 -1": "0", "-1 1": "0", "1 2": "1.5e0", "1 2 3 4": "2.5e0", "1 1 0": "6.666666666666666e-1", "1 0 0": "3.333333333333333e-1", "9999999999": "9.999999999e9", "10": "1e1", "-100 0": "-5e1", "1 0 0 0 0 0 0 0 0 0": "1e-1",
		"12345 67890": "4.01175e4", "-1 0 0": "-3.333333333333333e-1",
	} {
		says(t, linesOf("signal a "+numbers, "mean a"), "a "+strconv.Itoa(len(strings.Fields(numbers))), want)
	}
	saysNo(t, "tone e 0 0 0\n", "mean e")
	saysNo(t, "signal a 1\ntone a 1 1 0\n", "mean a")
}

// Of many numbers near 10^15 the sums pass 2^53, so that each is rounded; more numbers than a float list may have are added too.
func TestBenchMeanThatIsRounded(t *testing.T) {
	ahead := loudAhead
	for range 9 {
		ahead += "join loud loud loud\n"
	}
	for _, more := range []string{"", "signal odd 1 3 -5 7\njoin loud odd loud\n", "signal odd 1 3 -5 7\n", "add loud loud less\n"} {
		for _, cut := range []string{"", "join loud loud one\n"} {
			benchHolds(t, ahead+more+cut+"mean loud\n")
		}
	}
	text := linesOf("signal k 1000000000", "filter loud k 1000000", "join a loud loud", "join a a a", "join a a a", "join a a loud", "join a a loud", "signal odd 1 1 1 1", "join b a odd", "join c odd a", "mean a", "mean b", "mean c")
	benchHolds(t, text)
	lists := impl.Signals(text)
	if b, c := lists[len(lists)-2].List, lists[len(lists)-1].List; meanSlow(b) == meanSlow(c) {
		t.Errorf("the order of %v and %v is in no mean", b, c)
	}
}

func TestBenchMeanOfManyNumbers(t *testing.T) {
	g := formSource(2201)
	for _, count := range []int{1, 2, 3, 199, 200, 201, 300, maxSignal} {
		benchHolds(t, signalLine("a", g.signal(9, count))+"\nmean a\n")
		benchHolds(t, "tone a 77 1000000000 "+textOfInts(count)+"\nmean a\nfilter b a 1000000\nmean b\nfilter b a -999999\nmean b\n")
	}
}

func TestBenchPack(t *testing.T) {
	ahead := linesOf("signal a 1 2 3 4 5 6", "tone e 0 0 0", "signal loud 1000000000 -1000000000 1000000000", "signal over 1000000001", "tone long 3 1000000000 512")
	saysAlso(t, ahead, "pack e 1", "0 65535")
	saysAlso(t, ahead, "pack e 128", "0 65535")
	for _, size := range []string{"1", "2", "3", "5", "6", "7", "127", "128"} {
		for _, name := range []string{"a", "e", "loud", "long"} {
			benchHolds(t, ahead+"pack "+name+" "+size)
			list, _ := strconv.Atoi(size)
			b, ok := impl.PackAll(namedIn(ahead, name), list)
			if said := impl.Session(ahead + "pack " + name + " " + size); !ok || !strings.HasSuffix(said, "\n"+textOfInts(len(b), crcByRule(b))+"\n") {
				t.Errorf("%s by %s is packed as %q, not as %d bytes", name, size, said, len(b))
			}
		}
		saysNo(t, ahead, "pack over "+size)
	}
	for _, size := range []string{"0", "-1", "129", "9999999999", "-9999999999", "4294967297"} {
		for _, name := range []string{"a", "e", "long"} {
			saysNo(t, ahead, "pack "+name+" "+size)
		}
	}
}

func namedIn(text, name string) []int {
	list := impl.Signals(text)
	return list[slices.IndexFunc(list, func(k impl.Named) bool { return k.Name == name })].List
}

func TestBenchNum(t *testing.T) {
	for line, want := range map[string]string{
		"num 0.1 half": "1e-1 1", "num 0.1 single": "1e-1 1", "num 0.1 double": "1e-1 1", "num 1 half": "1e0 0", "num 2 single": "2e0 0", "num -0 double": "-0 0", "num 0 half": "0 0", "num 0.0e9 half": "0 0", "num inf half": "inf 0", "num -inf single": "-inf 0", "num nan double": "nan 0",
		"num 65504 half": "6.55e4 0", "num 65520 half": "inf 5", "num -70000 half": "-inf 5", "num 1e39 single": "inf 5", "num 1e309 double": "inf 5", "num 1e400 double": "inf 5", "num 1e-8 half": "0 3", "num -1e-8 half": "-0 3", "num 1e-400 double": "0 3", "num 6e-5 half": "6e-5 3",
		"num 3e-320 double": "3e-320 3", "num 1e-45 single": "1e-45 3", "num 0.5 half": "5e-1 0", "num 2049 half": "2.048e3 1", "num 2051 half": "2.052e3 1", "num 9007199254740993 double": "9.007199254740992e15 1", "num 16777217 single": "1.6777216e7 1", "num 123.25 double": "1.2325e2 0",
		"num 0.1 Half": "no", "num 0.1 1": "no", "num 0.1 halfs": "no", "num 0.1 hal": "no", "num 0.1 Double": "no", "num 0.1 quad": "no", "num 0.1 DOUBLE": "no", "num 0.1 0": "no", "num half 0.1": "no", "num 0.1 3": "no", "num 0.1 single\xff": "no",
	} {
		says(t, line, want)
	}
	for _, text := range []string{"-nan", "+1", "01", "1.", ".1", "1e", "1e+1", "1e01", "1e-0", "Inf", "NaN", "0x1", "1_0", "1,5", "infinity", "--1", "-", "e1", "1e401", "1e-401", strings.Repeat("1", 61), "1." + strings.Repeat("0", 60), "\u0661", "1\xff", "1V", "a"} {
		for _, form := range []string{"half", "single", "double"} {
			saysNo(t, benchAhead, "num "+text+" "+form)
		}
	}
	for _, text := range []string{strings.Repeat("9", 60), "1." + strings.Repeat("0", 58) + "1", "1e400", "-1e-400", "0e400", "-" + strings.Repeat("1", 60) + "e-50"} {
		for _, form := range []string{"half", "single", "double"} {
			benchHolds(t, "num "+text+" "+form)
		}
	}
}

func TestBenchNumByChance(t *testing.T) {
	g := formSource(2202)
	alphabet := []string{"", "0", "1", "9", "-", ".", "e", "e-", "5", "nan", "inf"}
	for range 60 {
		lines := []string{}
		for range 20 {
			text := strconv.Itoa(g.ofAnySize(1<<62)) + []string{"", ".5", "e-5", "e-30", "e20", ".125e-300", "e300"}[g.below(7)]
			lines = append(lines, "num "+g.mutated(text, 2, alphabet)+" "+[]string{"half", "single", "double"}[g.below(3)])
		}
		benchHolds(t, linesOf(lines...))
	}
}

func TestBenchQty(t *testing.T) {
	for line, want := range map[string]string{
		"qty 48kHz * 5ms": "240", "qty 2V + 3V": "5 V", "qty 2 + 3": "5", "qty 2V * 3V": "6 V2", "qty 1mV + 1V": "1.001 V", "qty 1s + -1s": "0 s", "qty 0 * 5V": "0 V", "qty 1Hz * 1s": "1", "qty 1Hz + 2Hz": "3 s-1", "qty 2" + micro + "s + 0.5" + micro + "s": "0.0000025 s", "qty -3 * -3": "9",
		"qty 2nV * 5": "0.00000001 V", "qty 1GHz * 1GHz": "no", "qty 100MHz + 1Hz": "100000001 s-1", "qty 999999999 + 0": "999999999", "qty 999999999 + 1": "no", "qty 999999999 * 10": "no", "qty 1nV * 1nV": "no",
		"qty 1V + 1s": "no", "qty 1 + 1V": "no", "qty 0 + 1V": "no", "qty 0V + 0s": "no", "qty 1V - 1V": "no", "qty 1V / 1V": "no", "qty 1V x 1V": "no", "qty 1V ++ 1V": "no", "qty 1V ** 1V": "no", "qty 1V plus 1V": "no", "qty 999999999 * 999999999": "no", "qty 1000000000 + 1": "no",
		"qty 1G + 1": "no", "qty 12345.6789V + 0.0000000001V": "no", "qty 123456789 + 0.1": "no", "qty 99999999.9 + 0.1": "100000000", "qty 1GV + 1nV": "no", "qty 0.5 + 0.5": "1", "qty 0GV + 1nV": "no", "qty 0GV + 10nV": "0.00000001 V",
		"qty 01V + 1V": "no", "qty 1.V + 1V": "no", "qty V + 1V": "no", "qty 1V + V": "no", "qty 1" + mu + "V + 1V": "no", "qty 1v + 1V": "no", "qty +1V + 1V": "no", "qty - + -": "no", "qty 1V2 + 1V": "no", "qty 1e3 + 1": "no", "qty 1V + 1V\xff": "no", "qty -0 + -0": "0", "qty 1234567890 + 0": "no",
	} {
		says(t, line, want)
	}
	// Long units have a blank ahead, and are no word.
	for _, line := range []string{"qty 1 V + 1 V", "qty 1 V*s + 1V", "qty 1V + 1 V", "qty 1 V * 2", "qty 1 + 1 s-1", "qty 1V*s * 2"} {
		saysNo(t, benchAhead, line)
	}
}

// A sum or a product may be right, and too long to be shown.
func TestBenchQtyThatIsNotShown(t *testing.T) {
	for _, parts := range [][3]string{{"100GHz", "*", "1"}, {"1GHz", "*", "1"}, {"1nV", "*", "0.1"}, {"1nV", "*", "1nV"}, {"1GHz", "+", "1GHz"}, {"0.5nV", "+", "0.5nV"}, {"123456789", "*", "0.1nV"}, {"1MV", "*", "1kV"}, {"0.00000001", "*", "0.1"}} {
		a, okA := impl.ReadQty(parts[0])
		b, okB := impl.ReadQty(parts[2])
		told, ok := impl.MulQty(a, b)
		if parts[1] == "+" {
			told, ok = impl.AddQty(a, b)
		}
		line := strings.Join(parts[:], " ")
		if !okA || !okB || !ok {
			t.Errorf("%s has no outcome", line)
		}
		want := impl.ShowQty(told)
		if want == "" {
			want = "no"
		}
		says(t, "qty "+line, want)
	}
	says(t, "qty 1GHz * 1", "no")
	says(t, "qty 1nV * 0.1", "no")
}

func TestBenchQtyByChance(t *testing.T) {
	g := formSource(2203)
	figures := []string{"0", "5", "-5", "120", "1.50", "0.05", "123456789", "-12345678.9", "0.0", "01", "1000", "99999"}
	units := []string{"", "", "V", "V", "s", "Hz", "mV", "ks", "MHz", "nV", micro + "s", " V"}
	one := func() string { return figures[g.below(len(figures))] + units[g.below(len(units))] }
	alphabet := []string{"", "0", "1", "-", ".", "V", "s", "m", " ", "\xff"}
	for range 60 {
		lines := []string{}
		for range 30 {
			lines = append(lines, g.mutated("qty "+one()+" "+[]string{"+", "*", "+", "*", "-"}[g.below(5)]+" "+one(), g.below(2), alphabet))
		}
		benchHolds(t, linesOf(lines...))
	}
}

func TestBenchSaysByChance(t *testing.T) {
	g := formSource(2204)
	for range 60 {
		most := []int{3, 100, maxTap, maxSample}[g.below(4)]
		text := signalLine("a", g.signal(most, 1+g.below(12))) + "\n" + signalLine("b", g.atEnds(most, 1+g.below(200))) + "\n"
		for _, name := range []string{"a", "b"} {
			high := g.within(most)
			text += linesOf("show "+name, "mean "+name, "peaks "+name+" "+textOfInts(high, high-g.below(most)), "peaks "+name+" "+textOfInts(g.within(most), g.within(most)), "bin "+name+" "+textOfInts(g.within(300)), "pack "+name+" "+textOfInts(1+g.below(130)))
		}
		benchHolds(t, text)
	}
}
