package tests

import (
	"math"
	"slices"
	"testing"

	"loop.example/g00043/impl"
)

// The oracle of trellises: a register is a row of cells that move on, the likeliest message is searched among all of them where these are few, and else found from the end on, where each bit is a 0 unless a 1 leaves more to be had.

const (
	maxMessage = impl.MaxMessage
	maxSoft    = 100
	maxKeep    = 32
)

type coderShape struct{ m, a, b int }

// cellsOfMask are the bits of a mask, the lowest first, as many as the register has.
func (c coderShape) cellsOfMask(mask int) []int {
	cells := make([]int, c.m+1)
	for k := range cells {
		cells[k] = mask % 2
		mask /= 2
	}
	return cells
}

func (c coderShape) spreadSlow(bits []int) []int {
	masks := [][]int{c.cellsOfMask(c.a), c.cellsOfMask(c.b)}
	cells, told := make([]int, c.m+1), []int{}
	for _, bit := range slices.Concat(bits, make([]int, c.m)) {
		copy(cells[1:], cells)
		cells[0] = bit
		for _, mask := range masks {
			sum := 0
			for k, x := range mask {
				sum += x * cells[k]
			}
			told = append(told, sum%2)
		}
	}
	return told
}

// scoreSlow adds what speaks for each place of a word.
func scoreSlow(word, soft []int) int {
	score := 0
	for at, bit := range word {
		if bit == 1 {
			score += soft[at]
		} else {
			score -= soft[at]
		}
	}
	return score
}

// A bookOfWords has all messages of one length, in their order, and what they are spread to.
type bookOfWords struct {
	messages, words [][]int
}

func (c coderShape) book(n int) bookOfWords {
	book := bookOfWords{}
	for _, text := range allTexts(n) {
		book.messages = append(book.messages, bitsOfText(text))
		book.words = append(book.words, c.spreadSlow(bitsOfText(text)))
	}
	return book
}

// likeliest is the first of those that none passes.
func (b bookOfWords) likeliest(soft []int) ([]int, int) {
	best, most := 0, scoreSlow(b.words[0], soft)
	for at, word := range b.words {
		if score := scoreSlow(word, soft); score > most {
			best, most = at, score
		}
	}
	return b.messages[best], most
}

// nearest is in how many places two of the words differ at least.
func (b bookOfWords) nearest() int {
	least := math.MaxInt
	for at, word := range b.words {
		for _, other := range b.words[:at] {
			least = min(least, differencesOf(word, other))
		}
	}
	return least
}

func differencesOf(a, b []int) int {
	count := 0
	for at := range a {
		if a[at] != b[at] {
			count++
		}
	}
	return count
}

// placeScore is what a register tells for one pair of soft numbers.
func (c coderShape) placeScore(register int, pair []int) int {
	score := 0
	for at, mask := range []int{c.a, c.b} {
		sum := 0
		for k, x := range c.cellsOfMask(mask) {
			sum += x * (register >> k & 1)
		}
		score += pair[at] * (2*(sum%2) - 1)
	}
	return score
}

// likeliestBack knows of each register, going from the end to the front, how much is still to be had; then it goes to the end once.
func (c coderShape) likeliestBack(soft []int) ([]int, int) {
	steps, size := len(soft)/2, 2<<c.m
	left := make([][]int, steps+1)
	left[steps] = make([]int, size)
	taken := func(at, register, bit int) int {
		next := (2*register + bit) % size
		return c.placeScore(next, soft[2*at:2*at+2]) + left[at+1][next]
	}
	for at := steps - 1; at >= 0; at-- {
		left[at] = make([]int, size)
		for register := range left[at] {
			left[at][register] = taken(at, register, 0)
			if at < steps-c.m {
				left[at][register] = max(left[at][register], taken(at, register, 1))
			}
		}
	}
	message, register := []int{}, 0
	for at := range steps - c.m {
		bit := 0
		if taken(at, register, 1) > taken(at, register, 0) {
			bit = 1
		}
		message = append(message, bit)
		register = (2*register + bit) % size
	}
	return message, left[0][0]
}

// goodCoders have words that lie far from each other.
var goodCoders = []coderShape{{1, 1, 3}, {2, 7, 5}, {3, 15, 13}, {4, 19, 29}, {5, 43, 61}, {6, 91, 121}}

// edgeCoders have masks of the lowest bit alone, of the highest alone, and of all.
func edgeCoders() []coderShape {
	coders := []coderShape{}
	for m := 1; m <= 6; m++ {
		masks := []int{1, 1 << m, 2<<m - 1}
		for _, a := range masks {
			for _, b := range masks {
				coders = append(coders, coderShape{m, a, b})
			}
		}
	}
	return coders
}

// smallCoders are all of memory 1 and 2.
func smallCoders() []coderShape {
	coders := []coderShape{}
	for m := 1; m <= 2; m++ {
		for a := 1; a < 2<<m; a++ {
			for b := 1; b < 2<<m; b++ {
				coders = append(coders, coderShape{m, a, b})
			}
		}
	}
	return coders
}

// coder gives one of any memory.
func (g *formSource) coder() coderShape {
	m := 1 + int(g.next()%6)
	most := uint64(2<<m - 1)
	return coderShape{m, 1 + int(g.next()%most), 1 + int(g.next()%most)}
}

func manyCoders(seed uint64) []coderShape {
	g := formSource(seed)
	coders := slices.Concat(goodCoders, smallCoders(), edgeCoders())
	for range 20 {
		coders = append(coders, g.coder())
	}
	return coders
}

var (
	noMemories = []int{-1, 0, 7, 8, -2, -6, 31, 32, 62, 63, 64, 65, 1 << 32, 1<<32 + 2, 2 - 1<<32, math.MaxInt, math.MinInt, math.MinInt + 2}
	// someAlike are few different numbers, so that many messages are as good.
	someAlike = [][]int{{0}, {1}, {-1}, {maxSoft}, {-maxSoft}, {1, -1}, {0, 1, -1}, {0, maxSoft}, {-maxSoft, maxSoft}, {0, 0, 0, -3, 3}, {-2, -1, 1, 2}}
	noKeeps   = [][]int{nil, {}, {0}, {0, 0, 0}, make([]int, maxKeep), slices.Repeat([]int{1}, maxKeep+1), append([]int{1}, make([]int, maxKeep)...), append(make([]int, maxKeep), 1), slices.Repeat([]int{1}, 100), {2}, {-1}, {1, 2}, {2, 1}, {1, -1}, {-1, 1}, {1, 0, 2}, {1, 0, -1}, {1, 3, 1}, {1, 1<<32 + 1}, {1<<32 + 1}, {1 << 32, 1}, {math.MaxInt, 1}, {1, math.MinInt}}
)

// noMasks are none for a memory.
func noMasks(m int) []int {
	return []int{0, 2 << m, -1, 2<<m + 1, 4 << m, 1 - 2<<m, -2 << m, 128, 1 << 32, 1<<32 + 1, 1 - 1<<32, math.MaxInt, math.MinInt, math.MinInt + 1}
}

// of chooses from some numbers.
func (g *formSource) of(some []int, count int) []int {
	list := make([]int, 0, count)
	for range count {
		list = append(list, some[g.next()%uint64(len(some))])
	}
	return list
}

// softLists are many ties, and numbers of all sizes.
func (g *formSource) softLists(count int) [][]int {
	lists := [][]int{g.atEnds(maxSoft, count), g.signal(maxSoft, count), g.signal(3, count)}
	for _, some := range someAlike {
		lists = append(lists, g.of(some, count))
	}
	return lists
}

// keeps are patterns of many lengths: the least, the greatest, with a single 1 at either end, and by chance.
func (g *formSource) keeps() [][]int {
	keeps := [][]int{{1}, {1, 0}, {0, 1}, {1, 1}, {1, 0, 1}, {1, 1, 0, 1, 1, 0}, {1, 1, 1, 0}, slices.Repeat([]int{1}, maxKeep), append(make([]int, maxKeep-1), 1), append([]int{1}, make([]int, maxKeep-1)...)}
	for n := 1; n <= maxKeep; n++ {
		keep := g.flips(n)
		keep[g.next()%uint64(n)] = 1
		keeps = append(keeps, keep)
	}
	return keeps
}

// thinSlow lays the pattern out as often as need be, and crosses out.
func thinSlow(list, keep []int) []int {
	told := []int{}
	left := keep
	for _, x := range list {
		if left[0] == 1 {
			told = append(told, x)
		}
		left = left[1:]
		if len(left) == 0 {
			left = keep
		}
	}
	return told
}

// thickenSlow has at each place that is kept the number that stands behind as many as are kept ahead of it.
func thickenSlow(list, keep []int, n int) []int {
	told := []int{}
	for place := range n {
		ahead := len(thinSlow(make([]int, place), keep))
		if len(thinSlow(make([]int, place+1), keep)) > ahead {
			told = append(told, list[ahead])
		} else {
			told = append(told, 0)
		}
	}
	return told
}

func spreadHolds(t *testing.T, c coderShape, bits []int) {
	t.Helper()
	got, ok := impl.Spread(c.m, c.a, c.b, bits)
	holdSignal(t, "Spread", got, ok, c.spreadSlow(bits))
}

func noSpread(t *testing.T, what string, c coderShape, bits []int) {
	t.Helper()
	got, ok := impl.Spread(c.m, c.a, c.b, bits)
	noSignal(t, "Spread of "+what, got, ok)
}

// likeliestIs wants that message and that score, and by itself: the score is that of what Spread tells of the message.
func likeliestIs(t *testing.T, c coderShape, soft, want []int, score int) {
	t.Helper()
	got, gotScore, ok := impl.Likeliest(c.m, c.a, c.b, soft)
	if !ok || !slices.Equal(got, want) || gotScore != score {
		t.Errorf("Likeliest of %v with %v is %v with %d, %v, not %v with %d", soft, c, got, gotScore, ok, want, score)
		return
	}
	if word, ok := impl.Spread(c.m, c.a, c.b, got); !ok || len(word) != len(soft) || scoreSlow(word, soft) != gotScore {
		t.Errorf("%v, spread with %v, has not the score %d by %v", got, c, gotScore, soft)
	}
}

func noLikeliest(t *testing.T, what string, c coderShape, soft []int) {
	t.Helper()
	got, score, ok := impl.Likeliest(c.m, c.a, c.b, soft)
	noSignal(t, "Likeliest of "+what, got, ok)
	holdInt(t, "the score beside a refusal", score, 0, what)
}
