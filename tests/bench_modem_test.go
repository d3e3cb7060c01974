package tests

import (
	"strings"
	"testing"

	"loop.example/g00043/impl"
)

func benchModem(width, mend int) impl.Modem {
	return impl.Modem{Width: width, Mend: mend, Rows: 4, Seed: 1, Rate: 1, Size: 10}
}

// flat is a burst as a signal of the bench.
func flat(burst []impl.Point) []int {
	told := []int{}
	for _, p := range burst {
		told = append(told, p.X, p.Y)
	}
	return told
}

func TestBenchSend(t *testing.T) {
	for _, width := range pointWidths {
		for mend := 1; mend <= maxMend; mend++ {
			for _, word := range []string{"A", "hey", "\u03c9\xff", strings.Repeat("~", maxSent-1), strings.Repeat("!", maxSent), "\t", "\x00", "#", "end"} {
				want := flat(sent(t, benchModem(width, mend), []byte(word)))
				text := "send s " + textOfInts(width, mend) + " " + word
				says(t, text, "s "+textOfInts(len(want)))
				holdSignal(t, text, namedIn(text, "s"), true, want)
			}
			saysNo(t, benchAhead, "send sent "+textOfInts(width, mend)+" "+strings.Repeat("a", maxSent+1))
			saysNo(t, benchAhead, "send s "+textOfInts(width, mend)+" "+strings.Repeat("\u03c9", 21))
			saysNo(t, benchAhead, "send s "+textOfInts(width, mend)+" ")
			saysNo(t, benchAhead, "send s "+textOfInts(width, mend)+" a b")
		}
	}
	for _, numbers := range []string{"0 2", "1 2", "3 2", "5 2", "7 2", "9 2", "10 2", "-4 2", "4 0", "4 9", "4 -1", "9999999999 2", "4 9999999999", "4294967300 2", "4 4294967298"} {
		saysNo(t, benchAhead, "send s "+numbers+" hey")
		saysNo(t, benchAhead, "hear sent "+numbers+" 3")
	}
}

func TestBenchHear(t *testing.T) {
	for _, width := range pointWidths {
		for mend := 1; mend <= maxMend; mend++ {
			modem := " " + textOfInts(width, mend) + " "
			for _, word := range []string{"A", "!", "~", "hey", "#plan", strings.Repeat("z", maxSent)} {
				says(t, linesOf("send s"+modem+word, "hear s"+modem+textOfInts(len(word))), "s "+textOfInts(2+2*symbolCount(benchModem(width, mend), len(word))), word+" 0")
			}
			ahead := linesOf("send s"+modem+"hey", "tone e 0 0 0", "tone hum 3 1000 400")
			for _, count := range []string{"0", "-1", "41", "9999999999", "-9999999999", "4294967299"} {
				saysNo(t, ahead, "hear s"+modem+count)
			}
			for _, line := range []string{"hear e" + modem + "3", "hear s" + modem + "40", "hear s " + textOfInts(width, mend%maxMend+1) + " 3"} {
				saysNo(t, ahead, line)
			}
			for count := 1; count <= maxSent; count += 13 {
				benchHolds(t, ahead+linesOf("hear s"+modem+textOfInts(count), "hear hum"+modem+textOfInts(count)))
			}
		}
	}
}

// A burst that is heard begins with what is loud, wherever it lies and whatever quarter it is turned by.
func TestBenchHearOfTurnedBursts(t *testing.T) {
	data := []byte("Way!")
	for _, m := range []impl.Modem{benchModem(2, 1), benchModem(4, 2), benchModem(6, 3), benchModem(8, 8)} {
		burst := sent(t, m, data)
		hear := "hear s " + textOfInts(m.Width, m.Mend, len(data))
		for quarter := range 4 {
			for _, delay := range []int{0, 1, 7} {
				list := flat(airSlow(burst, delay, quarter, nil))
				says(t, linesOf(signalLine("s", list), hear), "s "+textOfInts(len(list)), "Way! 0")
				list = append(list, 5, 5, -7, 0)
				says(t, linesOf(signalLine("s", list), hear), "s "+textOfInts(len(list)), "Way! 0")
				saysNo(t, signalLine("s", append(list, 1))+"\n", hear)
				saysNo(t, signalLine("s", list[1:])+"\n", hear)
				saysNo(t, signalLine("s", list[:len(list)-8])+"\n", hear)
			}
		}
	}
}

// Of an odd length there is no burst, also where all that is asked would be there.
func TestBenchHearOfOddLength(t *testing.T) {
	ahead := linesOf("send s 4 2 hey", "signal o 0", "join odd s o", "join even odd o", "join first o s", "signal b 1")
	saysAlso(t, ahead, "hear s 4 2 3", "hey 0")
	saysAlso(t, ahead, "hear even 4 2 3", "hey 0")
	for _, line := range []string{"hear odd 4 2 3", "hear first 4 2 3", "hear o 4 2 3", "hear b 4 2 3"} {
		saysNo(t, ahead, line)
	}
}

// As many bytes as Mend says are mended, and told.
func TestBenchHearOfHurtBursts(t *testing.T) {
	g := formSource(2211)
	for _, width := range pointWidths {
		for mend := 1; mend <= maxMend; mend++ {
			m := benchModem(width, mend)
			word := codeSlow([]byte("hurt"), mend)
			for count := range mend + 2 {
				hurt := g.hurt(word, g.places(len(word), count))
				list := flat(sendWordSlow(m, hurt))
				hear := "hear s " + textOfInts(width, mend, 4)
				benchHolds(t, linesOf(signalLine("s", list), hear))
				if count <= mend {
					says(t, linesOf(signalLine("s", list), hear), "s "+textOfInts(len(list)), "hurt "+textOfInts(count))
				}
			}
		}
	}
}

func TestBenchHearOfNoise(t *testing.T) {
	g := formSource(2212)
	for range 30 {
		for _, width := range pointWidths {
			m := benchModem(width, 1+g.below(maxMend))
			hear := "hear s " + textOfInts(width, m.Mend)
			list := g.signal(400, 2*(20+g.below(100)))
			benchHolds(t, linesOf(signalLine("s", list), hear+" 1", hear+" 5"))
			list = flat(airSlow(sent(t, m, []byte("noise")), 3, g.below(4), g.points(4, 10)))
			says(t, linesOf(signalLine("s", list), hear+" 5"), "s "+textOfInts(len(list)), "noise 0")
			list = flat(airSlow(sent(t, m, []byte("noise")), 3, g.below(4), g.points(60, 8)))
			benchHolds(t, linesOf(signalLine("s", list), hear+" 5"))
		}
	}
}

// Bytes that are said are those from ! to ~.
func TestBenchHearOfBytes(t *testing.T) {
	for b := range 256 {
		for _, data := range [][]byte{{byte(b)}, {'a', byte(b)}, {byte(b), 'z', 'z'}} {
			m := benchModem(4, 1)
			text := linesOf(signalLine("s", flat(sent(t, m, data))), "hear s 4 1 "+textOfInts(len(data)))
			want := "no"
			if b >= 33 && b <= 126 {
				want = string(data) + " 0"
			}
			says(t, text, "s "+textOfInts(2+2*symbolCount(m, len(data))), want)
		}
	}
}

func TestBenchHearsWhatIsSentByChance(t *testing.T) {
	g := formSource(2213)
	for range 100 {
		word := ""
		for range 1 + g.below(maxSent) {
			word += string(rune(33 + g.below(94)))
		}
		m := textOfInts(pointWidths[g.below(4)], 1+g.below(maxMend))
		text := linesOf("send s "+m+" "+word, "show s", "hear s "+m+" "+textOfInts(len(word)))
		benchHolds(t, text)
		if said := impl.Session(text); !strings.HasSuffix(said, "\n"+word+" 0\n") {
			t.Errorf("%s sent by %s is heard as %q", word, m, said)
		}
	}
}
