package tests

import (
	"strings"
	"testing"
)

func TestNodeNameOfOneLetter(t *testing.T) {
	for r, want := range map[rune]bool{
		64: false, 65: true, 90: true, 91: false, 96: false, 97: true, 122: true, 123: false, 191: false, 192: true, 214: true, 215: false, 216: true,
		246: true, 247: false, 248: true, 591: true, 592: false, 912: false, 913: true, 929: true, 930: false, 931: true, 969: true, 970: false,
		0: false, 32: false, 181: false, 956: true, '_': false, '0': false, '9': false, 0x10ffff: false, 0xfffd: false, 0xd7ff: false, 65 + 65536: false,
	} {
		nameIs(t, string(r), want)
		nameIs(t, "a"+string(r), want || r == '_' || r == '0' || r == '9')
		nameIs(t, string(r)+"b", want)
	}
	for r := range rune(1500) {
		nameIs(t, string(r), letterSlow(r))
		nameIs(t, "q"+string(r), letterSlow(r) || r >= 48 && r <= 57 || r == 95)
		nameIs(t, string(r)+"q", letterSlow(r))
	}
}

func TestNodeNameOfLengths(t *testing.T) {
	nameIs(t, "", false)
	for count := 1; count <= 30; count++ {
		for _, letter := range []string{"a", "Z", "é", "Ω"} {
			name := strings.Repeat(letter, count)
			nameIs(t, name, count <= 12)
			nameIs(t, name+"1", count < 12)
			nameIs(t, name+"_", count < 12)
			nameIs(t, name+"ω", count < 12)
			nameIs(t, "_"+name, false)
			nameIs(t, "7"+name, false)
			nameIs(t, name+" ", false)
			nameIs(t, name+"\xff", false)
		}
	}
	nameIs(t, "a00000000000", true)
	nameIs(t, "a000000000000", false)
	nameIs(t, strings.Repeat("a", 3000), false)
}

func TestNodeNameOfOthers(t *testing.T) {
	for name, want := range map[string]bool{
		"mix_1": true, "Äther": true, "Ωmega9": true, "a_b_c": true, "a__": true, "in": true, "node": true, "V": true,
		" a": false, "a ": false, "a b": false, "a\n": false, "a\t": false, "a-b": false, "a.b": false, "#a": false, "a#": false, "->": false, "a>": false,
		"1": false, "_": false, "__a": false, "9a": false, "a+": false, "٣": false, "a٣": false, "аб": false, "名": false, "a\u0301": false, "\ufeffa": false,
	} {
		nameIs(t, name, want)
	}
}

// Bytes that are no UTF-8: alone, cut short, told too long, and halves of pairs.
func TestNodeNameOfNoText(t *testing.T) {
	for _, bytes := range []string{"\xff", "\x80", "\xc3", "\xce", "\xc1\x81", "\xe0\x81\x81", "\xed\xa0\x80", "\xf5\x80\x80\x80", "\xc3\xc3", "\xa9\xc3", "\xf0\x82\x82\xac"} {
		nameIs(t, bytes, false)
		nameIs(t, "a"+bytes, false)
		nameIs(t, bytes+"a", false)
		nameIs(t, "é"+bytes, false)
		nameIs(t, "abcdefghijkl"+bytes, false)
	}
	for first := range 256 {
		nameIs(t, string([]byte{byte(first)}), nameSlow(string([]byte{byte(first)})))
		for second := range 256 {
			pair := string([]byte{byte(first), byte(second)})
			nameIs(t, pair, nameSlow(pair))
			nameIs(t, "x"+pair, nameSlow("x"+pair))
		}
	}
}

func TestNodeNameByChance(t *testing.T) {
	g := formSource(2051)
	alphabet := []string{"", "a", "Z", "é", "Ω", "0", "_", " ", "-", "\xff", "\u00d7", "\u03a2", "\u0250", "#"}
	for range 20000 {
		name := g.name(12)
		nameIs(t, name, nameSlow(name))
		name = g.mutated(name, 2, alphabet)
		nameIs(t, name, nameSlow(name))
	}
}
