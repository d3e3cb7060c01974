package tests

import (
	"slices"
	"testing"

	"loop.example/g00043/impl"
)

func TestTrellisSpreadByHand(t *testing.T) {
	for _, c := range []struct {
		coder      coderShape
		bits, want string
	}{
		{coderShape{2, 7, 5}, "101", "1110001011"}, {coderShape{2, 7, 5}, "1", "111011"}, {coderShape{2, 7, 5}, "0", "000000"}, {coderShape{2, 7, 5}, "", "0000"}, {coderShape{2, 5, 7}, "1", "110111"}, {coderShape{2, 7, 5}, "11", "11010111"},
		{coderShape{1, 1, 3}, "1", "1101"}, {coderShape{1, 1, 3}, "10", "110100"}, {coderShape{1, 1, 1}, "101", "11001100"}, {coderShape{1, 2, 2}, "101", "00110011"}, {coderShape{1, 1, 2}, "1", "1001"}, {coderShape{1, 3, 3}, "11", "110011"}, {coderShape{1, 3, 2}, "", "00"},
		{coderShape{6, 64, 1}, "1", "01000000000010"}, {coderShape{6, 127, 64}, "1", "10101010101011"}, {coderShape{6, 1, 2}, "", "000000000000"}, {coderShape{3, 8, 4}, "1", "00000110"},
	} {
		bits, want := bitsOfText(c.bits), bitsOfText(c.want)
		holdSignal(t, "the oracle by hand", c.coder.spreadSlow(bits), true, want)
		spreadHolds(t, c.coder, bits)
	}
}

func TestTrellisSpreadOfShortMessages(t *testing.T) {
	for _, c := range manyCoders(1501) {
		shortBits(6, func(bits []int) { spreadHolds(t, c, bits) })
	}
}

// Each of the masks that are allowed is, the greatest too, with messages of all lengths.
func TestTrellisSpreadOfAllMasks(t *testing.T) {
	g := formSource(1502)
	for m := 1; m <= 6; m++ {
		for a := 1; a < 2<<m; a++ {
			for b := 1; b < 2<<m; b++ {
				spreadHolds(t, coderShape{m, a, b}, g.flips(int(g.next()%12)))
			}
		}
	}
}

func TestTrellisSpreadOfLongMessages(t *testing.T) {
	g := formSource(1503)
	for _, c := range manyCoders(1504) {
		for _, n := range []int{7, 8, 31, 64, maxMessage - 1, maxMessage} {
			spreadHolds(t, c, g.flips(n))
		}
		spreadHolds(t, c, make([]int, maxMessage))
		spreadHolds(t, c, slices.Repeat([]int{1}, maxMessage))
		spreadHolds(t, c, nil)
	}
}

// What comes is told twice for each bit, and twice for each bit of the tail.
func TestTrellisSpreadIsAsLongAsTold(t *testing.T) {
	for _, c := range manyCoders(1505) {
		for _, n := range []int{0, 1, 2, 60, maxMessage} {
			got, ok := impl.Spread(c.m, c.a, c.b, make([]int, n))
			holdSignal(t, "Spread of noughts", got, ok, make([]int, 2*(n+c.m)))
		}
	}
}

// Each of the two is a product of polynomials: of the message and of the mask, whose lowest bit is that of the power 0.
func TestTrellisSpreadIsAProduct(t *testing.T) {
	g := formSource(1506)
	for _, c := range manyCoders(1507) {
		bits := g.flips(1 + int(g.next()%maxMessage))
		got, _ := impl.Spread(c.m, c.a, c.b, bits)
		for which, mask := range []int{c.a, c.b} {
			product := convolveSlow(bits, c.cellsOfMask(mask))
			for at, x := range product {
				holdInt(t, "Spread", got[2*at+which], x%2, c, bits, at)
			}
			holdInt(t, "the places of Spread", len(got), 2*len(product), c, bits)
		}
	}
}

// Messages added up place by place, modulo 2, are spread to what they are spread to, added up.
func TestTrellisSpreadOfSums(t *testing.T) {
	g := formSource(1508)
	for _, c := range manyCoders(1509) {
		n := int(g.next() % (maxMessage + 1))
		first, second := g.flips(n), g.flips(n)
		a, _ := impl.Spread(c.m, c.a, c.b, first)
		b, _ := impl.Spread(c.m, c.a, c.b, second)
		got, ok := impl.Spread(c.m, c.a, c.b, addedBits(first, second))
		holdSignal(t, "Spread of a sum", got, ok, addedBits(a, b))
	}
}

func addedBits(a, b []int) []int {
	told := []int{}
	for at := range a {
		told = append(told, (a[at]+b[at])%2)
	}
	return told
}

func TestTrellisSpreadOfWrongCoders(t *testing.T) {
	for _, bits := range [][]int{{}, {1}, {1, 0, 1}} {
		for _, m := range noMemories {
			for _, mask := range []int{1, 2, 3, 5, 7} {
				noSpread(t, "a wrong memory", coderShape{m, mask, 1}, bits)
				noSpread(t, "a wrong memory", coderShape{m, 1, mask}, bits)
			}
			noSpread(t, "all wrong", coderShape{m, 0, 0}, bits)
			noSpread(t, "all wrong", coderShape{m, -1, 1 << 40}, bits)
		}
		for m := 1; m <= 6; m++ {
			for _, bad := range noMasks(m) {
				noSpread(t, "a wrong first mask", coderShape{m, bad, 1}, bits)
				noSpread(t, "a wrong second mask", coderShape{m, 1, bad}, bits)
				noSpread(t, "two wrong masks", coderShape{m, bad, bad}, bits)
			}
		}
	}
}

func TestTrellisSpreadOfWrongMessages(t *testing.T) {
	for _, c := range slices.Concat(goodCoders, edgeCoders()) {
		for _, list := range noBitLists() {
			noSpread(t, "no bits", c, list)
		}
		for _, n := range []int{maxMessage + 1, maxMessage + 2, 2 * maxMessage, maxBits} {
			noSpread(t, "too many noughts", c, make([]int, n))
			noSpread(t, "too many ones", c, slices.Repeat([]int{1}, n))
		}
		full := make([]int, maxMessage)
		full[maxMessage-1] = 2
		noSpread(t, "a 2 at the end", c, full)
	}
}
