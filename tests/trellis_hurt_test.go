package tests

import (
	"slices"
	"testing"

	"loop.example/g00043/impl"
)

// softSpread is a message on its way: spread and softened.
func softSpread(t *testing.T, c coderShape, message []int, size int) []int {
	t.Helper()
	word, ok := impl.Spread(c.m, c.a, c.b, message)
	holdSignal(t, "Spread", word, ok, c.spreadSlow(message))
	soft, ok := impl.Soften(word, size)
	if !ok || len(soft) != len(word) {
		t.Fatalf("Soften of %v is %v %v", word, soft, ok)
	}
	return soft
}

func turnedAt(soft, places []int) []int {
	told := slices.Clone(soft)
	for _, place := range places {
		told[place] = -told[place]
	}
	return told
}

// foundAgain hurts what was spread at those places, each of which takes twice its size from the score.
func foundAgain(t *testing.T, c coderShape, message []int, size int, places []int) {
	t.Helper()
	soft := softSpread(t, c, message, size)
	likeliestIs(t, c, turnedAt(soft, places), message, size*(len(soft)-2*len(places)))
}

func TestTrellisWhatIsSpreadIsFoundAgain(t *testing.T) {
	g := formSource(1521)
	for _, c := range manyCoders(1522) {
		for _, n := range []int{0, 1, 2, 3, 10, 50} {
			for _, size := range []int{1, 2, maxSoft} {
				foundAgain(t, c, g.flips(n), size, nil)
			}
		}
	}
	for _, c := range goodCoders {
		foundAgain(t, c, g.flips(maxMessage), 7, nil)
		foundAgain(t, c, slices.Repeat([]int{1}, maxMessage), maxSoft, nil)
	}
}

// The coder of memory 2 with 7 and 5: two hurt places do not matter, wherever they are.
func TestTrellisTwoHurtPlacesOfShortMessages(t *testing.T) {
	c := coderShape{2, 7, 5}
	shortBits(5, func(message []int) {
		count := 2 * (len(message) + c.m)
		foundAgain(t, c, message, 1, nil)
		for first := range count {
			foundAgain(t, c, message, 1, []int{first})
			for second := range first {
				foundAgain(t, c, message, maxSoft, []int{second, first})
			}
		}
	})
}

func TestTrellisTwoHurtPlacesOfLongMessages(t *testing.T) {
	g := formSource(1523)
	c := coderShape{2, 7, 5}
	for range 150 {
		n := 6 + int(g.next()%(maxMessage-5))
		count := 2 * (n + c.m)
		size := 1 + int(g.next()%maxSoft)
		message := g.flips(n)
		foundAgain(t, c, message, size, g.places(count, 1))
		foundAgain(t, c, message, size, g.places(count, 2))
		near := int(g.next() % uint64(count-1))
		foundAgain(t, c, message, size, []int{near, near + 1})
	}
	message := g.flips(maxMessage)
	for place := range 2*(maxMessage+c.m) - 1 {
		foundAgain(t, c, message, 3, []int{place, place + 1})
	}
}

// Three hurt places of the coder 7, 5 may matter: another message is nearer.
func TestTrellisThreeHurtPlaces(t *testing.T) {
	likeliestIs(t, coderShape{2, 7, 5}, turnedAt([]int{1, 1, 1, -1, 1, 1}, []int{0, 1, 2}), []int{0}, 2)
}

// Hurt in fewer places than half of what any two spread messages differ in, it is found again, with every coder.
func TestTrellisFewerThanHalfHurtPlaces(t *testing.T) {
	g := formSource(1524)
	for _, c := range manyCoders(1525) {
		for _, n := range []int{1, 4, 6} {
			book := c.book(n)
			most := (book.nearest() - 1) / 2
			for range 12 {
				message := book.messages[g.next()%uint64(len(book.messages))]
				foundAgain(t, c, message, 1+int(g.next()%maxSoft), g.places(2*(n+c.m), most))
			}
		}
	}
}

// A thinned word is found again where its noughts say nothing, as what a search among all messages finds.
func TestTrellisThinnedWordsAreFound(t *testing.T) {
	g := formSource(1526)
	c := coderShape{2, 7, 5}
	for _, keep := range [][]int{{1}, {1, 1, 1, 0}, {1, 1, 0, 1}, {1, 1, 1, 0, 0, 1}, {1, 0}} {
		for _, n := range []int{0, 1, 5, 8} {
			book := c.book(n)
			for range 10 {
				message := g.flips(n)
				word := softSpread(t, c, message, 9)
				thin, _ := impl.Thin(word, keep)
				thick, ok := impl.Thicken(thin, keep, len(word))
				holdSignal(t, "Thicken of Thin", thick, ok, thickenSlow(thin, keep, len(word)))
				want, score := book.likeliest(thick)
				likeliestIs(t, c, thick, want, score)
				holdInt(t, "the score of a thinned word", score, 9*len(thin), message, keep)
			}
		}
	}
	for range 40 {
		message := g.flips(int(g.next() % (maxMessage + 1)))
		word := softSpread(t, c, message, 1)
		keep := []int{1, 1, 1, 0}
		thin, _ := impl.Thin(word, keep)
		thick, _ := impl.Thicken(thin, keep, len(word))
		likeliestIs(t, c, thick, message, len(thin))
	}
}

func TestTrellisSoftenByHand(t *testing.T) {
	for _, c := range []struct {
		bits string
		size int
		want []int
	}{
		{"", 0, nil}, {"", 100, nil}, {"1", 0, []int{0}}, {"0", 0, []int{0}}, {"1", 100, []int{100}}, {"0", 100, []int{-100}}, {"1111001010", 3, []int{3, 3, 3, 3, -3, -3, 3, -3, 3, -3}}, {"01", 1, []int{-1, 1}},
	} {
		got, ok := impl.Soften(bitsOfText(c.bits), c.size)
		holdSignal(t, "Soften by hand", got, ok, c.want)
	}
}

func TestTrellisSoften(t *testing.T) {
	for _, size := range []int{0, 1, 2, 50, maxSoft - 1, maxSoft} {
		manyBitLists(1527, func(bits []int) {
			got, ok := impl.Soften(bits, size)
			if !ok || len(got) != len(bits) {
				t.Fatalf("Soften of %v with %d is %v %v", bits, size, got, ok)
			}
			for at, x := range got {
				if bits[at] == 1 && x != size || bits[at] == 0 && x != -size {
					t.Errorf("Soften of %d with %d is %d", bits[at], size, x)
				}
			}
		})
	}
	got, ok := impl.Soften(nil, 5)
	holdSignal(t, "Soften of nothing", got, ok, nil)
}

func TestTrellisSoftenThatIsRefused(t *testing.T) {
	for _, list := range noBitLists() {
		for _, size := range []int{0, 1, maxSoft, -1} {
			got, ok := impl.Soften(list, size)
			noSignal(t, "Soften of no bits", got, ok)
		}
	}
	for _, size := range []int{-1, maxSoft + 1, -2, -maxSoft, maxSoft + 2, 1 << 32, 1<<32 + 1, 1 - 1<<32, 1<<62 + 1, maxBig, -maxBig} {
		for _, list := range [][]int{nil, {0}, {1}, {1, 0, 1}, make([]int, maxBits)} {
			got, ok := impl.Soften(list, size)
			noSignal(t, "Soften with a wrong size", got, ok)
		}
	}
}
