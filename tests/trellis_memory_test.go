package tests

import (
	"math"
	"slices"
	"testing"

	"loop.example/g00043/impl"
)

func messageOf(message []int, _ int, ok bool) ([]int, bool) { return message, ok }

func (c coderShape) spread(bits []int) ([]int, bool) { return impl.Spread(c.m, c.a, c.b, bits) }

func (c coderShape) likeliestMessage(soft []int) ([]int, bool) {
	return messageOf(impl.Likeliest(c.m, c.a, c.b, soft))
}

func soften7(bits []int) ([]int, bool) { return impl.Soften(bits, 7) }

func TestTrellisAnswersAreNewMemory(t *testing.T) {
	g := formSource(1541)
	for _, c := range slices.Concat(goodCoders, []coderShape{{1, 2, 2}, {6, 64, 1}}) {
		for _, n := range []int{0, 1, 2, 3, 40, maxMessage} {
			newMemory(t, "Spread", g.flips(n), c.spread)
			for _, soft := range [][]int{make([]int, 2*(n+c.m)), g.signal(maxSoft, 2*(n+c.m)), g.of([]int{-1, 1}, 2*(n+c.m))} {
				newMemory(t, "Likeliest", soft, c.likeliestMessage)
			}
		}
	}
	manyBitLists(1542, func(bits []int) { newMemory(t, "Soften", bits, soften7) })
}

func TestTrellisThinAnswersAreNewMemory(t *testing.T) {
	g := formSource(1543)
	for _, keep := range g.keeps() {
		for _, n := range []int{0, 1, 2, len(keep), 100, maxBits} {
			list := g.atEnds(maxSample, n)
			newMemoryOfBoth(t, "Thin", list, keep, impl.Thin)
			newMemoryOfBoth(t, "Thicken", thinSlow(list, keep), keep, func(list, keep []int) ([]int, bool) { return impl.Thicken(list, keep, n) })
		}
		newMemoryOfBoth(t, "Thin", keep, keep, impl.Thin)
	}
	newMemoryOfBoth(t, "Thicken", []int{1, 1}, []int{1, 1}, func(list, keep []int) ([]int, bool) { return impl.Thicken(list, keep, 2) })
}

// One list may be both: what is thinned and by what.
func TestTrellisThinOfOneList(t *testing.T) {
	g := formSource(1544)
	for _, keep := range g.keeps() {
		got, ok := impl.Thin(keep, keep)
		holdSignal(t, "Thin of a pattern by itself", got, ok, slices.Repeat([]int{1}, sumOfInts(keep)))
	}
}

// What is refused is not written into either, nor handed out.
func TestTrellisRefusedArgumentsStay(t *testing.T) {
	for _, list := range slices.Concat(noBitLists(), noKeeps, [][]int{{1, 0, 1}, {101, 0}, {0, 0, 0, -101}, make([]int, 5)}) {
		untouchedInts(t, "what is refused", list, func(piece []int) {
			for _, c := range []coderShape{{2, 7, 5}, {0, 1, 1}, {2, 8, 5}, {2, 7, 0}} {
				overwriteNothing(t, piece, listOf(c.spread(piece)))
				overwriteNothing(t, piece, listOf(c.likeliestMessage(piece)))
			}
			overwriteNothing(t, piece, listOf(impl.Thin(piece, piece)))
			overwriteNothing(t, piece, listOf(impl.Thin(piece, []int{0})))
			overwriteNothing(t, piece, listOf(impl.Thicken(piece, piece, 3)))
			overwriteNothing(t, piece, listOf(impl.Thicken(piece, []int{1}, len(piece)+1)))
			overwriteNothing(t, piece, listOf(impl.Thicken(piece, []int{1}, -1)))
			overwriteNothing(t, piece, listOf(impl.Soften(piece, -1)))
			overwriteNothing(t, piece, listOf(impl.Soften(piece, 5)))
		})
	}
}

// Behind the length of a list nothing is read.
func TestTrellisReadsNoSpareRoom(t *testing.T) {
	g := formSource(1545)
	for _, behind := range []int{1, 2, -1, math.MaxInt, math.MinInt} {
		for n := range 20 {
			c := g.coder()
			room := slices.Repeat([]int{behind}, 300)
			bits := append(g.flips(n), room...)[:n]
			spreadHolds(t, c, bits)
			soft := g.signal(maxSoft, 2*(n+c.m))
			message, score := c.likeliestBack(soft)
			likeliestIs(t, c, append(slices.Clone(soft), room...)[:len(soft)], message, score)
			keep := append(g.flips(n), 1)
			thinHolds(t, append(g.flips(n), room...)[:n], append(keep, room...)[:n+1])
			got, ok := impl.Soften(bits, 4)
			if !ok || len(got) != n {
				t.Errorf("Soften of %v is %v %v", bits, got, ok)
			}
		}
	}
	noLikeliest(t, "numbers behind the last", coderShape{2, 7, 5}, []int{1, 1, 1, 1}[:3])
}

// Nothing is kept: what is asked in between changes no answer.
func TestTrellisKeepsNothing(t *testing.T) {
	g := formSource(1546)
	c, other := coderShape{3, 15, 13}, coderShape{6, 91, 121}
	bits := g.flips(50)
	soft := g.signal(maxSoft, 2*(50+c.m))
	message, score := c.likeliestBack(soft)
	for range 3 {
		other.spread(g.flips(30))
		spreadHolds(t, c, bits)
		other.likeliestMessage(g.signal(maxSoft, 80))
		other.likeliestMessage([]int{1})
		likeliestIs(t, c, soft, message, score)
		impl.Thicken(bits, []int{1, 0}, 100)
		thinHolds(t, bits, []int{1, 1, 0})
	}
}
