package tests

import (
	"math"
	"slices"
	"testing"

	"loop.example/g00043/impl"
)

func TestTrellisLikeliestByHand(t *testing.T) {
	for _, c := range []struct {
		coder coderShape
		soft  []int
		want  string
		score int
	}{
		{coderShape{2, 7, 5}, []int{3, 3, 3, 3, -3, -3, 3, -3, 3, -3}, "101", 18},
		{coderShape{2, 7, 5}, []int{1, 1, 1, -1, 1, 1}, "1", 6}, {coderShape{2, 7, 5}, []int{1, 1, -1, -1, 1, -1}, "1", 2}, {coderShape{2, 7, 5}, []int{1, 1, -1, -1, -1, 0}, "0", 1},
		{coderShape{1, 1, 3}, make([]int, 6), "00", 0}, {coderShape{1, 1, 3}, []int{1, 1, 0, 1}, "1", 3}, {coderShape{1, 1, 3}, []int{1, -1, 0, 0}, "0", 0}, {coderShape{1, 1, 3}, []int{-100, 100, 99, 1}, "1", -98}, {coderShape{1, 1, 3}, []int{-100, 100, 99, 0}, "0", -99}, {coderShape{1, 1, 3}, []int{-100, 100, 98, -2}, "0", -96}, {coderShape{1, 1, 3}, []int{-100, 100, -1, 1}, "1", 2},
		{coderShape{1, 1, 3}, []int{5, -7}, "", 2}, {coderShape{6, 64, 1}, []int{1, 2, 3, 4, 5, 6, 7, 8, 9, 10, 11, 12}, "", -78}, {coderShape{1, 2, 2}, []int{-100, -100}, "", 200},
		{coderShape{1, 1, 1}, []int{1, -1, 2, -2, 100, 100}, "00", -200}, {coderShape{1, 1, 1}, []int{1, -1, 2, -1, 100, 100}, "01", -199}, {coderShape{1, 2, 2}, []int{100, 100, 1, 0, 0, -1}, "10", -198},
	} {
		want := bitsOfText(c.want)
		message, score := c.coder.book(len(want)).likeliest(c.soft)
		holdSignal(t, "the oracle by hand", message, score == c.score, want)
		message, score = c.coder.likeliestBack(c.soft)
		holdSignal(t, "the oracle back by hand", message, score == c.score, want)
		likeliestIs(t, c.coder, c.soft, want, c.score)
	}
}

func TestTrellisLikeliestOfAllShortMessages(t *testing.T) {
	g := formSource(1511)
	for _, c := range manyCoders(1512) {
		for _, n := range []int{0, 1, 2, 3, 4, 7} {
			book := c.book(n)
			for _, soft := range g.softLists(2 * (n + c.m)) {
				message, score := book.likeliest(soft)
				likeliestIs(t, c, soft, message, score)
			}
		}
	}
}

func TestTrellisLikeliestOfAllMessagesOfTenBits(t *testing.T) {
	g := formSource(1513)
	coders := slices.Concat(goodCoders, []coderShape{{1, 1, 1}, {1, 2, 3}, {2, 4, 1}, {3, 8, 8}, {4, 31, 31}, {5, 32, 1}, {6, 127, 1}, {6, 64, 64}})
	for range 6 {
		coders = append(coders, g.coder())
	}
	for _, c := range coders {
		for _, n := range []int{9, 10} {
			book := c.book(n)
			for _, soft := range g.softLists(2 * (n + c.m)) {
				message, score := book.likeliest(soft)
				likeliestIs(t, c, soft, message, score)
				again, againScore := c.likeliestBack(soft)
				holdSignal(t, "the oracle back", again, againScore == score, message)
			}
		}
	}
}

// All lists of few numbers: each tie that there can be is there.
func TestTrellisLikeliestOfAllTies(t *testing.T) {
	for _, c := range []coderShape{{1, 1, 1}, {1, 1, 2}, {1, 1, 3}, {1, 2, 1}, {1, 2, 3}, {1, 3, 3}} {
		book := c.book(3)
		soft := make([]int, 8)
		for number := range 6561 {
			for at := range soft {
				soft[at] = number%3 - 1
				number /= 3
			}
			message, score := book.likeliest(soft)
			likeliestIs(t, c, soft, message, score)
		}
	}
}

func TestTrellisLikeliestOfLongMessages(t *testing.T) {
	g := formSource(1514)
	coders := slices.Concat(goodCoders, []coderShape{{1, 2, 2}, {2, 1, 4}, {3, 8, 1}, {6, 127, 127}, {6, 1, 64}, {6, 64, 64}})
	for _, c := range coders {
		for _, n := range []int{20, 64, maxMessage - 1, maxMessage} {
			for _, soft := range g.softLists(2 * (n + c.m)) {
				message, score := c.likeliestBack(soft)
				likeliestIs(t, c, soft, message, score)
			}
		}
	}
}

// With noughts alone every message is as good, and the first one is that of noughts.
func TestTrellisLikeliestOfNoughts(t *testing.T) {
	for _, c := range manyCoders(1515) {
		for _, n := range []int{0, 1, 2, 9, 40} {
			likeliestIs(t, c, make([]int, 2*(n+c.m)), make([]int, n), 0)
		}
	}
}

// The message of no bits has the tail alone, which is spread to noughts.
func TestTrellisLikeliestOfTheTailAlone(t *testing.T) {
	g := formSource(1516)
	for _, c := range manyCoders(1517) {
		for _, soft := range g.softLists(2 * c.m) {
			likeliestIs(t, c, soft, []int{}, -sumOfInts(soft))
		}
	}
}

// No message passes the score that is told, and among those that reach it none comes ahead of the one that is told.
func TestTrellisLikeliestIsPassedByNone(t *testing.T) {
	g := formSource(1518)
	for range 400 {
		c, n := g.coder(), 1+int(g.next()%maxMessage)
		soft := g.of(someAlike[g.next()%uint64(len(someAlike))], 2*(n+c.m))
		told, score, ok := impl.Likeliest(c.m, c.a, c.b, soft)
		if !ok {
			t.Fatalf("Likeliest of %v with %v is refused", soft, c)
		}
		for range 20 {
			other := slices.Clone(told)
			for range 1 + g.next()%4 {
				other[g.next()%uint64(n)] ^= 1
			}
			word, _ := impl.Spread(c.m, c.a, c.b, other)
			got := scoreSlow(word, soft)
			if got > score || got == score && slices.Compare(other, told) < 0 {
				t.Errorf("%v has %d by %v with %v, ahead of %v with %d", other, got, soft, c, told, score)
			}
		}
	}
}

func TestTrellisLikeliestOfWrongCoders(t *testing.T) {
	for _, m := range noMemories {
		for _, n := range []int{0, 1, 2, 4, 10, 14, 16, 2 * maxMessage} {
			noLikeliest(t, "a wrong memory", coderShape{m, 1, 1}, make([]int, n))
			noLikeliest(t, "a wrong memory", coderShape{m, 7, 5}, make([]int, n))
			noLikeliest(t, "all wrong", coderShape{m, 0, -1}, make([]int, n))
		}
	}
	for m := 1; m <= 6; m++ {
		for _, bad := range noMasks(m) {
			for _, n := range []int{0, 1, 3, maxMessage} {
				soft := make([]int, 2*(n+m))
				noLikeliest(t, "a wrong first mask", coderShape{m, bad, 1}, soft)
				noLikeliest(t, "a wrong second mask", coderShape{m, 1, bad}, soft)
				noLikeliest(t, "two wrong masks", coderShape{m, bad, bad}, soft)
			}
		}
	}
}

// Lists that are too short for the tail, of an odd length, or too long by two.
func TestTrellisLikeliestOfWrongLengths(t *testing.T) {
	for _, c := range slices.Concat(goodCoders, edgeCoders()) {
		for n := range 2 * c.m {
			noLikeliest(t, "too few", c, make([]int, n))
		}
		noLikeliest(t, "nothing", c, nil)
		most := 2 * (maxMessage + c.m)
		for _, n := range []int{2*c.m + 1, 2*c.m + 3, most - 1, most + 1, most + 2, most + 3, most + 4, 1000, 100000} {
			noLikeliest(t, "a wrong length", c, make([]int, n))
		}
		for _, n := range []int{0, maxMessage} {
			likeliestIs(t, c, make([]int, 2*(n+c.m)), make([]int, n), 0)
		}
	}
}

func TestTrellisLikeliestOfWrongNumbers(t *testing.T) {
	for _, c := range goodCoders {
		for _, n := range []int{0, 1, 5, maxMessage} {
			count := 2 * (n + c.m)
			for _, bad := range []int{maxSoft + 1, -maxSoft - 1, maxSoft + 2, 1000, -1000, 1 << 32, 1<<32 + 1, math.MaxInt, math.MinInt, math.MinInt + 1} {
				for _, at := range []int{0, 1, count / 2, count - 2, count - 1} {
					soft := make([]int, count)
					soft[at] = bad
					noLikeliest(t, "a number beyond", c, soft)
				}
			}
			message, score := c.likeliestBack(slices.Repeat([]int{maxSoft}, count))
			likeliestIs(t, c, slices.Repeat([]int{maxSoft}, count), message, score)
			likeliestIs(t, c, slices.Repeat([]int{-maxSoft}, count), make([]int, n), maxSoft*count)
		}
	}
}
