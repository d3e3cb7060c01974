package tests

import (
	"strconv"
	"strings"
	"testing"

	"loop.example/g00043/impl"
)

func readIs(t *testing.T, text string, want impl.Qty) {
	t.Helper()
	got, ok := impl.ReadQty(text)
	holdQty(t, "ReadQty of "+strconv.Quote(text), got, ok, want, true)
	readHolds(t, text)
}

func noQty(t *testing.T, texts ...string) {
	t.Helper()
	for _, text := range texts {
		got, ok := impl.ReadQty(text)
		holdQty(t, "ReadQty of "+strconv.Quote(text), got, ok, impl.Qty{}, false)
		readHolds(t, text)
	}
}

func plain(num, pow int) impl.Qty { return impl.Qty{Num: num, Pow: pow} }

func TestReadQtyOfFigures(t *testing.T) {
	for text, want := range map[string]impl.Qty{
		"1": plain(1, 0), "-1": plain(-1, 0), "10": plain(1, 1), "-1200": plain(-12, 2), "1.5": plain(15, -1), "-1.5": plain(-15, -1),
		"1.50": plain(15, -1), "1.0": plain(1, 0), "10.0": plain(1, 1), "100.500": plain(1005, -1), "0.05": plain(5, -2), "-0.050": plain(-5, -2),
		"0.10": plain(1, -1), "123456789": plain(123456789, 0), "1234.56789": plain(123456789, -5), "100000000": plain(1, 8),
		"-999999999": plain(-999999999, 0), "0.00000001": plain(1, -8), "0.12345678": plain(12345678, -8), "-1.00000000": plain(-1, 0),
	} {
		readIs(t, text, want)
	}
	for _, text := range []string{"0", "-0", "0.0", "-0.0", "0.00000000", "0GHz", "0nV", "-0.0ks", "0 V9*s-9"} {
		got, ok := impl.ReadQty(text)
		if !ok || got.Num != 0 || got.Pow != 0 {
			t.Errorf("ReadQty of %q is %v %v", text, got, ok)
		}
		readHolds(t, text)
	}
	readIs(t, "0", impl.Qty{})
	readIs(t, "0GHz", impl.Qty{Sec: -1})
	readIs(t, "0 V9*s-9", impl.Qty{Volt: 9, Sec: -9})
}

func TestReadQtyOfWrongFigures(t *testing.T) {
	noQty(t, "", "-", "--1", "+1", "-+1", "01", "00", "-01", "00.5", "01.5", ".", ".5", "-.5", "5.", "-5.", "1..5", "1.2.3", "1.5.", "1.-5", "1-",
		"1,5", "1e3", "1E3", "0x10", "1_000", " 1", "1 ", "1\n", "\t1", "- 1", "−1", "١", "１", "1.", "0.", "NaN", "Inf", "-Inf",
		"1234567890", "-1000000000", "0.123456789", "1.000000000", "0.000000000", "0000000000", "1000000000", "12345.67891", "10000000000.0")
	for _, digits := range []int{1, 5, 9, 10, 11, 20, 100} {
		readHolds(t, strings.Repeat("7", digits))
		readHolds(t, "-"+strings.Repeat("7", digits)+"V")
		for ahead := 1; ahead < digits; ahead++ {
			readHolds(t, strings.Repeat("7", ahead)+"."+strings.Repeat("7", digits-ahead))
			readHolds(t, "1"+strings.Repeat("0", ahead-1)+"."+strings.Repeat("0", digits-ahead)+" s2")
			readHolds(t, "0."+strings.Repeat("0", ahead-1)+strings.Repeat("3", digits-ahead))
		}
	}
}

func TestReadQtyOfShortUnits(t *testing.T) {
	units := map[string]impl.Qty{"V": {Volt: 1}, "s": {Sec: 1}, "Hz": {Sec: -1}}
	letters := map[string]int{"": 0, "n": -9, micro: -6, "m": -3, "k": 3, "M": 6, "G": 9}
	for unit, told := range units {
		for letter, pow := range letters {
			want := told
			want.Num, want.Pow = 25, pow-1
			readIs(t, "2.5"+letter+unit, want)
			want.Num, want.Pow = -3, pow+2
			readIs(t, "-300"+letter+unit, want)
			noQty(t, "1 "+letter+unit+" ", "1"+letter+unit+" ", "1"+letter+unit+"\n", "1"+letter+unit+"2", "1"+letter+unit+"-1", "1"+letter+unit+"1",
				"1"+letter+"*"+unit, "1"+letter+"  "+unit, "1"+letter+unit+unit, letter+unit, "-"+letter+unit, "1-"+letter+unit, "1+"+letter+unit)
		}
	}
	for letter := range letters {
		if letter != "" {
			noQty(t, "1"+letter, "1 "+letter, "1"+letter+letter+"V", "1"+letter+" V", "1"+letter+" s", "1 "+letter+"V", "1 "+letter+"s", "1 "+letter+"Hz", "1 "+letter+"V*s")
		}
	}
	noQty(t, "1 Hz", "1Hz ", "1hz", "1HZ", "1H", "1z", "1v", "1S", "1"+mu+"V", "1"+mu+"s", "1"+mu+"Hz", "1"+mu, "1uV", "1KV", "1gV", "1NV", "1pV", "1TV", "1 "+micro+"V",
		"1V*s", "1sV", "1Vs", "1mV*s", "1V/s", "1VHz", "1Hz*s", "1V ", "1s ", "1ssV", "1\u0000V", "1kkHz", "1\u00b5\u00b5V")
}

func TestReadQtyOfLongUnits(t *testing.T) {
	readIs(t, "1 V", impl.Qty{Num: 1, Volt: 1})
	readIs(t, "1 s", impl.Qty{Num: 1, Sec: 1})
	readIs(t, "-2.50 V*s", impl.Qty{Num: -25, Pow: -1, Volt: 1, Sec: 1})
	readIs(t, "40 V2*s-1", impl.Qty{Num: 4, Pow: 1, Volt: 2, Sec: -1})
	readIs(t, "7 V-9*s9", impl.Qty{Num: 7, Volt: -9, Sec: 9})
	readIs(t, "7 V*s-9", impl.Qty{Num: 7, Volt: 1, Sec: -9})
	readIs(t, "7 V-1", impl.Qty{Num: 7, Volt: -1})
	readIs(t, "7 s-1", impl.Qty{Num: 7, Sec: -1})
	for power := -12; power <= 12; power++ {
		p := strconv.Itoa(power)
		for _, units := range []string{" V" + p, " s" + p, " V" + p + "*s", " V*s" + p, " V" + p + "*s" + p, " s" + p + "*V", " V" + p + " s" + p} {
			readHolds(t, "5"+units)
			readHolds(t, "0"+units)
			noQty(t, "5 "+units, "5"+units+" ", "5"+units[1:]+"*", units, "5"+units+"\n")
		}
		noQty(t, "5V"+p, "5s"+p, "5Hz"+p)
	}
	noQty(t, "5 V1", "5 s1", "5 V0", "5 s0", "5 V1*s", "5 V*s1", "5 V0*s", "5 V*s0", "5 V10", "5 V-10", "5 s10", "5 s-10", "5 V*s10", "5 V-10*s",
		"5 V02", "5 V+2", "5 s-02", "5 s+2", "5 V-0", "5 V2*s02", "5 V+2*s2", "5 V2*s+2", "5 V00", "5 V--2", "5 V 2", "5 V2 *s", "5 V2* s", "5 V2*",
		"5 *s", "5 V**s", "5 V*V", "5 s*s", "5 s*V", "5 V*s*V", "5 V*s*s", "5 V*s*", "5 *V*s", "5 Vs", "5 V,s", "5 V/s", "5 V^2", "5 V2s2",
		"5  V", "5\tV", "5 V*Hz", "5 v", "5 S", "5 V2.0", "5 V22", "5 V99999999999999999999", "5 s18446744073709551618", "5 V-18446744073709551614",
		"5 ", "5 *", "5 2", "5 -2", "5 V\u00b2", "5 V２", "5-V", "5\u00a0V", "5 V\u0000", "V", " V", "s", "Hz", "V*s")
}

// A µ is the two bytes of the rune 181; one of these alone is no text at all.
func TestReadQtyOfBytesThatAreNoText(t *testing.T) {
	noQty(t, "\xff", "1\xff", "1\xffV", "\xff1V", "1\xb5V", "1\xc2V", "1\xb5\xc2V", "1V\xff", "1 V\xff", "1 \xffV", "1\xc1\xb5V", "1\xc2\xb5\xffV", "1\xe0\x82\xb5V",
		"1\xef\xbf\xbdV", "1\xed\xa0\x80V", "-\xff", "1.\xff", "1\x00", "\x00")
	readIs(t, "1\xc2\xb5V", impl.Qty{Num: 1, Pow: -6, Volt: 1})
	for first := range 256 {
		readHolds(t, "1"+string([]byte{byte(first)}))
		readHolds(t, "1"+string([]byte{byte(first)})+"V")
		readHolds(t, "1V"+string([]byte{byte(first)}))
		readHolds(t, string([]byte{byte(first)})+"1V")
		readHolds(t, "1 V"+string([]byte{byte(first)}))
		for second := range 256 {
			readHolds(t, "1"+string([]byte{byte(first), byte(second)})+"Hz")
		}
	}
}

// What a figure of nine digits and a letter can be stays far from the ends of Pow: no text has a Pow that is not right.
func TestReadQtyAtItsEnds(t *testing.T) {
	readIs(t, "0.00000001nV", impl.Qty{Num: 1, Pow: -17, Volt: 1})
	readIs(t, "100000000GHz", impl.Qty{Num: 1, Pow: 17, Sec: -1})
	readIs(t, "999999990ks", impl.Qty{Num: 99999999, Pow: 4, Sec: 1})
	readIs(t, "500000000", plain(5, 8))
	readIs(t, "99999999.0", plain(99999999, 0))
}

// mutated is a text with up to so many of its bytes others, gone, or twice there.
func (g *formSource) mutated(text string, most int, alphabet []string) string {
	for range g.below(most + 1) {
		at := g.below(len(text) + 1)
		end := min(at+g.below(2), len(text))
		text = text[:at] + alphabet[g.below(len(alphabet))] + text[end:]
	}
	return text
}

func TestReadQtyByChance(t *testing.T) {
	g := formSource(2021)
	figures := []string{"0", "5", "-5", "120", "-0", "1.50", "0.05", "123456789", "-12345678.9", "1000000000", "0.0", "01", "1.", ".5"}
	units := []string{"", "V", "s", "Hz", "mV", "ks", "MHz", "GHz", "nV", micro + "s", mu + "s", " V", " s", " V*s", " V2", " s-1", " V-3*s9", " V*s-10", " V1", " Hz"}
	alphabet := []string{"", "", "0", "1", "9", "-", "+", ".", " ", "V", "s", "Hz", "*", "m", "k", "n", micro, mu, "\xff", "2"}
	for range 40000 {
		text := figures[g.below(len(figures))] + units[g.below(len(units))]
		readHolds(t, g.mutated(text, 2, alphabet))
	}
	for range 20000 {
		text := ""
		for range g.below(7) {
			text += alphabet[g.below(len(alphabet))]
		}
		readHolds(t, text)
		readHolds(t, "3"+text)
	}
}
