package tests

import (
	"math"
	"slices"
	"testing"

	"loop.example/g00043/impl"
)

func TestBlockFillByHand(t *testing.T) {
	for _, c := range []struct {
		word []byte
		gone []int
		want []byte
	}{
		{[]byte{1, 3, 2}, nil, []byte{1, 3, 2}}, {[]byte{1, 3, 2}, []int{0, 1}, []byte{1, 3, 2}}, {[]byte{9, 3, 2}, []int{0}, []byte{1, 3, 2}}, {[]byte{1, 9, 9}, []int{1, 2}, []byte{1, 3, 2}}, {[]byte{9, 3, 9}, []int{0, 2}, []byte{1, 3, 2}}, {[]byte{9, 9, 2}, []int{0, 1}, []byte{1, 3, 2}},
	} {
		fillsTo(t, c.word, c.gone, 1, c.want)
		told, ok := fillSlow(c.word, c.gone, 1)
		holdBytes(t, "the oracle by hand", told, ok, c.want)
	}
	noFillOf(t, "a word hurt elsewhere", []byte{9, 3, 2}, []int{1}, 1)
	noFillOf(t, "a word hurt elsewhere", []byte{9, 3, 2}, nil, 1)
}

// Words known to be hurt in as many as 2 mend bytes come back, wherever these stand.
func TestBlockFillOfUpToTwiceMend(t *testing.T) {
	manyCodes(1431, func(g *formSource, word []byte, mend int) {
		for count := range 2*mend + 1 {
			for range 3 {
				gone := g.places(len(word), count)
				fillsTo(t, g.hurt(word, gone), gone, mend, word)
			}
			front, back := counted(count), []int{}
			for at := range count {
				back = append(back, len(word)-count+at)
			}
			fillsTo(t, g.hurt(word, front), front, mend, word)
			fillsTo(t, g.hurt(word, back), back, mend, word)
			noughts := slices.Clone(word)
			for _, place := range back {
				noughts[place] = 0
			}
			fillsTo(t, noughts, back, mend, word)
		}
	})
}

func TestBlockFillOfOnePlace(t *testing.T) {
	manyCodes(1432, func(g *formSource, word []byte, mend int) {
		for place := range word {
			fillsTo(t, g.hurt(word, []int{place}), []int{place}, mend, word)
			fillsTo(t, word, []int{place}, mend, word)
		}
	})
}

// Two places beside each other from the front to the end, and each place beside the last one: among what these fillings divide by is every number of the field but 0.
func TestBlockFillOfAllPairsWithTheLast(t *testing.T) {
	g := formSource(1438)
	word := codeSlow(g.bytes(maxBlock-2), 1)
	for place := range maxBlock - 1 {
		for _, gone := range [][]int{{place, maxBlock - 1}, {place, place + 1}} {
			fillsTo(t, g.hurt(word, gone), gone, 1, word)
		}
	}
}

// Places that are told as gone and were not hurt stay what they were.
func TestBlockFillOfPlacesNotHurt(t *testing.T) {
	manyCodes(1433, func(g *formSource, word []byte, mend int) {
		for count := range 2*mend + 1 {
			gone := g.places(len(word), count)
			fillsTo(t, word, gone, mend, word)
			if count > 0 {
				fillsTo(t, g.hurt(word, gone[:count/2]), gone, mend, word)
				fillsTo(t, g.hurt(word, gone[count-1:]), gone, mend, word)
			}
		}
	})
}

// Where a hurt place is lacking, another code word may fit only if as many as 2 mend are gone.
func TestBlockFillOfPlacesThatAreLacking(t *testing.T) {
	manyCodes(1434, func(g *formSource, word []byte, mend int) {
		for count := 1; count <= 2*mend+1; count++ {
			places := g.places(len(word), count)
			hurt := g.hurt(word, places)
			for _, lacking := range []int{0, count / 2, count - 1} {
				gone := slices.Delete(slices.Clone(places), lacking, lacking+1)
				fillHolds(t, hurt, gone, mend)
				if count <= 2*mend {
					noFillOf(t, "a word hurt elsewhere", hurt, gone, mend)
				}
			}
			if count <= 2*mend {
				noFillOf(t, "a word with no place gone", hurt, nil, mend)
			}
		}
	})
}

// Any word whose 2 mend places are gone is filled, since so many check bytes can be made up for.
func TestBlockFillOfWordsByChance(t *testing.T) {
	g := formSource(1435)
	for mend := 1; mend <= maxMend; mend++ {
		for _, n := range dataLengths(mend) {
			for count := range 2*mend + 1 {
				word := g.bytes(n + 2*mend)
				gone := g.places(len(word), count)
				fillHolds(t, word, gone, mend)
				if _, ok := impl.RsFill(word, gone, mend); count == 2*mend && !ok {
					t.Errorf("RsFill of %v, gone at %v, is refused", word, gone)
				}
			}
		}
	}
}

// Of one place or two all bytes are tried.
func TestBlockFillAgainstASearch(t *testing.T) {
	g := formSource(1436)
	for _, n := range []int{3, 4, 9} {
		for range 4 {
			word := codeSlow(g.bytes(n-2), 1)
			places := g.places(n, 2)
			hurt := g.hurt(word, places)
			fits := [][]byte{}
			for number := range 1 << 16 {
				tried := slices.Clone(hurt)
				tried[places[0]], tried[places[1]] = byte(number>>8), byte(number)
				if isCodeSlow(tried, 1) {
					fits = append(fits, tried)
				}
			}
			holdInt(t, "the count of code words", len(fits), 1)
			fillsTo(t, hurt, places, 1, fits[0])
			noFillOf(t, "a word hurt elsewhere", hurt, places[:1], 1)
			noFillOf(t, "a word hurt elsewhere", hurt, places[1:], 1)
		}
	}
}

func TestBlockFillOfTooManyPlaces(t *testing.T) {
	manyCodes(1437, func(g *formSource, word []byte, mend int) {
		for _, count := range []int{2*mend + 1, 2*mend + 2, len(word)} {
			if count <= len(word) {
				noFillOf(t, "too many places", word, g.places(len(word), count), mend)
			}
		}
		noFillOf(t, "too many places", word, slices.Repeat([]int{0}, 2*mend+1), mend)
	})
}

func TestBlockFillOfWrongPlaces(t *testing.T) {
	manyCodes(1438, func(g *formSource, word []byte, mend int) {
		n := len(word)
		for _, bad := range []int{-1, n, -2, -n, n + 1, n + 255, maxBlock, maxBlock + 1, 256, 1 << 32, 1<<32 + 1, 1 - 1<<32, math.MaxInt, math.MinInt, math.MinInt + 1} {
			if bad < 0 || bad >= n {
				noFillOf(t, "no place", word, []int{bad}, mend)
				noFillOf(t, "no place at the end", word, []int{0, bad}, mend)
				noFillOf(t, "no place at the beginning", word, []int{bad, n - 1}, mend)
			}
		}
		for _, gone := range [][]int{{0, 0}, {n - 1, n - 1}, {1, 0}, {n - 1, 0}, {n - 1, n - 2}, {2, 2}} {
			noFillOf(t, "places that do not ascend", word, gone, mend)
		}
		for count := 2; count <= 2*mend; count++ {
			for at := range count - 1 {
				gone := g.places(n, count)
				twice, turned := slices.Clone(gone), slices.Clone(gone)
				twice[at+1] = twice[at]
				turned[at], turned[at+1] = turned[at+1], turned[at]
				noFillOf(t, "a place told twice", word, twice, mend)
				noFillOf(t, "places that do not ascend", word, turned, mend)
				fillsTo(t, word, gone, mend, word)
			}
		}
		fillsTo(t, word, []int{0, n - 1}, mend, word)
	})
}

func TestBlockFillAtItsLimits(t *testing.T) {
	g := formSource(1439)
	for mend := 1; mend <= maxMend; mend++ {
		for _, n := range []int{2*mend + 1, maxBlock} {
			word := codeSlow(g.bytes(n-2*mend), mend)
			gone := g.places(n, 2*mend)
			fillsTo(t, g.hurt(word, gone), gone, mend, word)
			fillsTo(t, word, nil, mend, word)
			fillsTo(t, word, []int{}, mend, word)
		}
		for n := range 2*mend + 1 {
			noFillOf(t, "too few bytes", make([]byte, n), nil, mend)
			noFillOf(t, "too few bytes", make([]byte, n), counted(min(n, 2)), mend)
		}
		for _, n := range []int{maxBlock + 1, maxBlock + 2, 2 * maxBlock, 512, 5000} {
			noFillOf(t, "too many bytes", make([]byte, n), nil, mend)
			noFillOf(t, "too many bytes", make([]byte, n), []int{0, 1}, mend)
		}
		noFillOf(t, "nothing", nil, nil, mend)
	}
	for _, mend := range noMends {
		for n := range maxBlock + 3 {
			noFillOf(t, "a wrong mend", make([]byte, n), nil, mend)
			noFillOf(t, "a wrong mend", make([]byte, n), counted(min(n, 2)), mend)
		}
	}
}

// What RsMend finds, RsFill fills where it is told the places.
func TestBlockFillOfWhatMendFinds(t *testing.T) {
	manyCodes(1440, func(g *formSource, word []byte, mend int) {
		hurt := g.hurt(word, g.places(len(word), mend))
		told, _, ok := impl.RsMend(hurt, mend)
		holdBytes(t, "RsMend", told, ok, word)
		gone := []int{}
		for place := range told {
			if told[place] != hurt[place] {
				gone = append(gone, place)
			}
		}
		fillsTo(t, hurt, gone, mend, told)
	})
}
