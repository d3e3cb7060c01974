package tests

import (
	"slices"
	"testing"

	"loop.example/g00043/impl"
)

func TestBlockMendByHand(t *testing.T) {
	for _, c := range []struct {
		word, want []byte
		mend, far  int
	}{
		{[]byte{1, 3, 2}, []byte{1, 3, 2}, 1, 0}, {[]byte{0, 3, 2}, []byte{1, 3, 2}, 1, 1}, {[]byte{1, 0, 2}, []byte{1, 3, 2}, 1, 1}, {[]byte{1, 3, 0}, []byte{1, 3, 2}, 1, 1}, {[]byte{0, 0, 9}, []byte{0, 0, 0}, 1, 1},
		{[]byte{0, 1, 15, 54, 120, 64}, []byte{0, 1, 15, 54, 120, 64}, 2, 0}, {[]byte{9, 1, 15, 54, 120, 65}, []byte{0, 1, 15, 54, 120, 64}, 2, 2},
	} {
		mendsTo(t, c.word, c.mend, c.want, c.far)
		told, far, ok := mendSlow(c.word, c.mend)
		holdBytes(t, "the oracle by hand", told, ok, c.want)
		holdInt(t, "the oracle's count", far, c.far)
	}
	noMendOf(t, "a word far from all", []byte{1, 1, 1}, 1)
}

func TestBlockMendOfOneByteHurt(t *testing.T) {
	manyCodes(1421, func(g *formSource, word []byte, mend int) {
		mendsTo(t, word, mend, word, 0)
		for place := range word {
			mendsTo(t, g.hurt(word, []int{place}), mend, word, 1)
		}
	})
	g := formSource(1422)
	for mend := 1; mend <= maxMend; mend++ {
		word := codeSlow(g.bytes(2), mend)
		for place := range word {
			for x := 1; x < 256; x++ {
				turned := slices.Clone(word)
				turned[place] ^= byte(x)
				mendsTo(t, turned, mend, word, 1)
			}
		}
	}
}

// Whichever bytes are hurt, the word comes back: by chance, those in front, the check bytes, and the first and last.
func TestBlockMendOfAsManyAsMend(t *testing.T) {
	manyCodes(1423, func(g *formSource, word []byte, mend int) {
		for count := 1; count <= mend; count++ {
			for range 8 {
				mendsTo(t, g.hurt(word, g.places(len(word), count)), mend, word, count)
			}
			front, back := counted(count), []int{}
			for at := range count {
				back = append(back, len(word)-1-at)
			}
			mendsTo(t, g.hurt(word, front), mend, word, count)
			mendsTo(t, g.hurt(word, back), mend, word, count)
			mendsTo(t, g.hurt(word, append(front[:count/2], back[:count-count/2]...)), mend, word, count)
		}
	})
}

// Bytes that are all turned by the same bits are mended too, as are those that became noughts.
func TestBlockMendOfBursts(t *testing.T) {
	manyCodes(1424, func(g *formSource, word []byte, mend int) {
		for from := 0; from+mend <= len(word); from += 1 + len(word)/20 {
			same, noughts := slices.Clone(word), slices.Clone(word)
			for at := from; at < from+mend; at++ {
				same[at] ^= 255
				noughts[at] = 0
			}
			mendsTo(t, same, mend, word, mend)
			mendsTo(t, noughts, mend, word, differences(noughts, word))
		}
	})
}

// With more bytes hurt another code word may be as near: what is told is one within reach, or there is none.
func TestBlockMendOfMoreThanMend(t *testing.T) {
	manyCodes(1425, func(g *formSource, word []byte, mend int) {
		for _, count := range []int{mend + 1, mend + 2, 2 * mend, 2*mend + 1} {
			for range 5 {
				hurt := g.hurt(word, g.places(len(word), min(count, len(word))))
				mendHolds(t, hurt, mend)
				if got, _, ok := impl.RsMend(hurt, mend); ok && slices.Equal(got, word) {
					t.Errorf("%v came back from %v with mend %d", word, hurt, mend)
				}
			}
		}
	})
}

// A word between two code words is nearest to the one that it is mended to.
func TestBlockMendBetweenTwoWords(t *testing.T) {
	g := formSource(1426)
	for mend := 1; mend <= maxMend; mend++ {
		for range 20 {
			n := 2*mend + 1 + int(g.next()%3)
			data := g.bytes(n - 2*mend)
			a := codeSlow(data, mend)
			b := codeSlow(g.hurt(data, []int{0}), mend)
			word := slices.Clone(a)
			for place := range n {
				mendHolds(t, word, mend)
				word[place] = b[place]
			}
			mendsTo(t, word, mend, b, 0)
		}
	}
}

// Of short words all code words are searched.
func TestBlockMendAgainstASearch(t *testing.T) {
	g := formSource(1427)
	for mend := 1; mend <= maxMend; mend++ {
		for _, count := range []int{1, 2} {
			all := allCodes(count, mend)
			for turn := range 60 / (count * count) {
				word := g.bytes(count + 2*mend)
				if turn%3 != 0 {
					word = g.hurt(all[g.next()%uint64(len(all))], g.places(len(word), mend+turn%3-1))
				}
				want, far, ok := nearSlow(all, word, mend)
				if ok {
					mendsTo(t, word, mend, want, far)
				} else {
					noMendOf(t, "a word far from all", word, mend)
				}
				mendHolds(t, word, mend)
			}
		}
	}
}

// Every word of three bytes that begins so: 256 code words have each 765 words beside them, and a search tells which.
func TestBlockMendOfManyShortWords(t *testing.T) {
	all := allCodes(1, 1)
	for _, first := range []byte{0, 1, 200} {
		for number := 0; number < 1<<16; number += 5 {
			word := []byte{first, byte(number >> 8), byte(number)}
			want, far, ok := nearSlow(all, word, 1)
			if ok {
				mendsTo(t, word, 1, want, far)
			} else {
				noMendOf(t, "a word far from all", word, 1)
			}
		}
	}
}

func TestBlockMendOfWordsByChance(t *testing.T) {
	g := formSource(1428)
	for mend := 1; mend <= maxMend; mend++ {
		for _, n := range dataLengths(mend) {
			for range 6 {
				mendHolds(t, g.bytes(n+2*mend), mend)
			}
		}
	}
}

// A word may look as if it were hurt ahead of its first byte: no code word of its length is within reach then.
func TestBlockMendKeepsToItsPlaces(t *testing.T) {
	g := formSource(1429)
	for mend := 1; mend <= maxMend; mend++ {
		for range 30 {
			long := codeSlow(append(make([]byte, mend), g.bytes(5)...), mend)
			hurt := g.hurt(long, g.places(mend, 1))
			mendsTo(t, hurt, mend, long, 1)
			shifted := fillSyndromes(long[mend:], syndromesSlow(hurt, mend), mend)
			noMendOf(t, "a word hurt ahead of its first byte", shifted, mend)
			mendHolds(t, shifted, mend)
		}
	}
}

// fillSyndromes changes the check bytes of a code word so that it has those syndromes.
func fillSyndromes(word []byte, s []byte, mend int) []byte {
	lines := [][]byte{}
	for at := range 2 * mend {
		line := []byte{}
		for back := range 2 * mend {
			line = append(line, powerSlow(powerSlow(2, at), 2*mend-1-back))
		}
		lines = append(lines, append(line, s[at]))
	}
	amounts, ok := solved(lines, 2*mend)
	if !ok {
		panic("the powers are not apart")
	}
	told := slices.Clone(word)
	for at, amount := range amounts {
		told[len(word)-2*mend+at] ^= amount
	}
	return told
}

// Where all syndromes but one are 0, the shortest rule has more zeros than mend, all at places of the word: filled there it would be a code word out of reach.
func TestBlockMendReachesNoFurther(t *testing.T) {
	g := formSource(1420)
	for _, c := range [][2]int{{2, 3}, {3, 5}, {4, 5}, {8, 15}} {
		mend, zeros := c[0], c[1]
		for shift := range 255 / zeros {
			s := make([]byte, 2*mend)
			s[zeros-1] = powerSlow(2, shift*zeros)
			word := fillSyndromes(codeSlow(g.bytes(maxBlock-2*mend), mend), s, mend)
			places := []int{}
			for turn := range zeros {
				places = append(places, maxBlock-1-(shift+turn*255/zeros)%255)
			}
			slices.Sort(places)
			told, ok := fillSlow(word, places, mend)
			if !ok || differences(told, word) != zeros {
				t.Fatalf("with mend %d no code word is %d bytes away", mend, zeros)
			}
			noMendOf(t, "a word as far as that", word, mend)
			mendHolds(t, word, mend)
			fillsTo(t, word, places, mend, told)
		}
	}
}

func TestBlockMendAtItsLimits(t *testing.T) {
	g := formSource(1430)
	for mend := 1; mend <= maxMend; mend++ {
		for _, n := range []int{2*mend + 1, maxBlock} {
			word := codeSlow(g.bytes(n-2*mend), mend)
			mendsTo(t, word, mend, word, 0)
			mendsTo(t, g.hurt(word, g.places(n, mend)), mend, word, mend)
		}
		for n := range 2*mend + 1 {
			noMendOf(t, "too few bytes", make([]byte, n), mend)
			noMendOf(t, "too few bytes", g.bytes(n), mend)
		}
		for _, n := range []int{maxBlock + 1, maxBlock + 2, maxBlock + 2*mend, 2 * maxBlock, 511, 512, 513, 5000} {
			noMendOf(t, "too many bytes", make([]byte, n), mend)
			noMendOf(t, "too many bytes", g.bytes(n), mend)
		}
		noMendOf(t, "nothing", nil, mend)
	}
	for _, mend := range noMends {
		for n := range maxBlock + 3 {
			noMendOf(t, "a wrong mend", make([]byte, n), mend)
		}
		noMendOf(t, "a wrong mend", codeSlow(g.bytes(9), 3), mend)
	}
}
