package tests

import (
	"slices"
	"testing"

	"loop.example/g00043/impl"
)

var noLows = append(beyond(30), -1, 31, 32, 33, 62, 63, 64, 65, 128, 255, 256, 1<<32+1)

func riceHolds(t *testing.T, k int, list []int) {
	t.Helper()
	bits, ok := impl.Rice(k, list)
	if riceLength(k, list) > maxRiceBits {
		noSignal(t, "Rice of too many bits", bits, ok)
		return
	}
	holdSignal(t, "Rice", bits, ok, bitsOfText(riceSlow(k, list)))
}

func holdUnRice(t *testing.T, what string, got []int, used int, ok bool, want []int, wantUsed int) {
	t.Helper()
	if !ok || used != wantUsed || !slices.Equal(got, want) {
		t.Errorf("%s is %v, %d, %v, not %v, %d", what, got, used, ok, want, wantUsed)
	}
}

func noUnRice(t *testing.T, what string, k int, bits []int, n int) {
	t.Helper()
	got, used, ok := impl.UnRice(k, bits, n)
	if ok || used != 0 || len(got) != 0 {
		t.Errorf("%s is not refused: %v, %d, %v", what, got, used, ok)
	}
}

func unRiceHolds(t *testing.T, k int, bits []int, n int) {
	t.Helper()
	if want, wantUsed, wantOk := unRiceSlow(k, textOfBits(bits), n); wantOk {
		got, used, ok := impl.UnRice(k, bits, n)
		holdUnRice(t, "UnRice", got, used, ok, want, wantUsed)
	} else {
		noUnRice(t, "what tells too few numbers", k, bits, n)
	}
}

func TestPackRiceByHand(t *testing.T) {
	for _, c := range []struct {
		k    int
		list []int
		want string
	}{
		{0, []int{}, ""}, {30, []int{}, ""},
		{0, []int{0}, "0"}, {0, []int{-1}, "10"}, {0, []int{1}, "110"}, {0, []int{-2, 2}, "1110" + "11110"},
		{1, []int{0, -1, 3}, "00" + "01" + "11100"}, {2, []int{0, -1, 1, -2, 2, -5}, "000" + "001" + "010" + "011" + "1000" + "11001"},
		{4, []int{7, -8, 8, -9}, "01110" + "01111" + "100000" + "100001"},
		{30, []int{maxRice}, "10" + "110111001101011001010000000000"},
		{30, []int{0, -1}, "0000000000000000000000000000000" + "0000000000000000000000000000001"},
	} {
		bits, ok := impl.Rice(c.k, c.list)
		holdSignal(t, "Rice", bits, ok, bitsOfText(c.want))
		if riceSlow(c.k, c.list) != c.want {
			t.Errorf("the oracle tells %s of %v", riceSlow(c.k, c.list), c.list)
		}
		list, used, ok := impl.UnRice(c.k, bitsOfText(c.want), len(c.list))
		holdUnRice(t, "UnRice", list, used, ok, c.list, len(c.want))
	}
}

func TestPackRiceAgainstTexts(t *testing.T) {
	g := formSource(1731)
	for k := range maxLow + 1 {
		shortSignals(2, 3, func(list []int) { riceHolds(t, k, list) })
		for x := -300; x <= 300; x++ {
			riceHolds(t, k, []int{x})
		}
		for _, n := range append([]int{0}, blockLengths...) {
			for _, most := range []int{1, 10, 300, 1 << k, 20 << k} {
				riceHolds(t, k, g.signal(min(most, maxRice), n))
			}
			riceHolds(t, k, g.atEnds(min(10<<k, maxRice), n))
		}
		list := []int{}
		for power := range 30 {
			list = append(list, 1<<power, -1<<power, 1<<power-1)
		}
		for _, x := range list {
			riceHolds(t, k, []int{x})
		}
	}
}

func TestPackRiceAtItsLimits(t *testing.T) {
	for k := range maxLow + 1 {
		for _, x := range []int{maxRice, -maxRice, maxRice - 1, 1 - maxRice} {
			riceHolds(t, k, []int{x})
			riceHolds(t, k, []int{0, x, -x})
		}
		riceHolds(t, k, make([]int, maxFrame))
		riceHolds(t, k, slices.Repeat([]int{-1}, maxFrame))
		for _, list := range [][]int{make([]int, maxFrame+1), make([]int, maxFrame+2), make([]int, maxSignal), slices.Repeat([]int{-1}, 5000)} {
			bits, ok := impl.Rice(k, list)
			noSignal(t, "Rice of too many numbers", bits, ok)
		}
		for _, x := range beyond(maxRice) {
			for _, list := range [][]int{{x}, {x, 0}, {0, x, 0}, append(make([]int, maxFrame-1), x)} {
				bits, ok := impl.Rice(k, list)
				noSignal(t, "Rice of a number beyond its bounds", bits, ok)
			}
		}
	}
	full := slices.Repeat([]int{maxRice, -maxRice}, maxFrame/2)
	for k := range maxLow + 1 {
		riceHolds(t, k, full)
	}
	bits, ok := impl.Rice(30, full)
	holdInt(t, "how many bits", len(bits), 32*maxFrame, ok)
}

func TestPackRiceOfNoSuchLow(t *testing.T) {
	for _, k := range noLows {
		for _, list := range [][]int{{}, {0}, {1, 2, -3}} {
			bits, ok := impl.Rice(k, list)
			noSignal(t, "Rice of such a k", bits, ok)
		}
		for _, bits := range [][]int{{}, {0}, make([]int, 200)} {
			for _, n := range []int{0, 1} {
				noUnRice(t, "UnRice of such a k", k, bits, n)
			}
		}
	}
}

// Just 100000 bits are told, and one more is refused.
func TestPackRiceOfManyBits(t *testing.T) {
	for _, c := range []struct {
		k             int
		list, oneMore []int
		count         int
	}{
		{0, []int{-50000}, []int{50000}, maxRiceBits},
		{0, []int{0, 49999}, []int{0, -50000}, maxRiceBits},
		{0, []int{24999, -25000}, []int{-25000, -25000}, maxRiceBits - 1},
		{0, []int{-25000, -25000}, []int{-25000, 25000}, maxRiceBits},
		{1, []int{99998}, []int{99999}, maxRiceBits},
		{14, []int{99985 << 13}, []int{99986 << 13}, maxRiceBits},
		{14, []int{99986<<13 - 1}, []int{99986 << 13}, maxRiceBits},
		{14, []int{-99986 << 13}, []int{-99986<<13 - 1}, maxRiceBits},
	} {
		holdInt(t, "how many bits", riceLength(c.k, c.list), c.count, c.k, c.list)
		holdInt(t, "how many bits", riceLength(c.k, c.oneMore), c.count+1, c.k, c.oneMore)
		riceHolds(t, c.k, c.list)
		riceHolds(t, c.k, c.oneMore)
		bits, ok := impl.Rice(c.k, c.list)
		list, used, okBack := impl.UnRice(c.k, bits, len(c.list))
		holdUnRice(t, "UnRice", list, used, ok && okBack, c.list, c.count)
	}
	list := slices.Repeat([]int{390}, maxFrame)
	holdInt(t, "how many bits", riceLength(0, list), 781*maxFrame, list)
	list[7] += (maxRiceBits - 781*maxFrame) / 2
	riceHolds(t, 0, list)
	bits, ok := impl.Rice(0, list)
	holdInt(t, "how many bits", len(bits), maxRiceBits, ok)
	list[9] = -391
	bits, ok = impl.Rice(0, list)
	noSignal(t, "Rice of one bit more", bits, ok)
}

// Numbers come back from their bits, whatever stands behind them.
func TestPackNumbersComeBackFromBits(t *testing.T) {
	g := formSource(1732)
	for k := range maxLow + 1 {
		for _, n := range append([]int{0}, blockLengths...) {
			for _, list := range [][]int{make([]int, n), g.signal(3, n), g.signal(min(4<<k, maxRice), n), g.atEnds(min(4<<k, maxRice), n)} {
				bits, ok := impl.Rice(k, list)
				if !ok {
					t.Fatalf("Rice of %d and %v is refused", k, list)
				}
				for _, behind := range [][]int{{}, {0}, {1}, {1, 1, 1, 1, 1, 1, 1, 1}, g.flips(50), slices.Repeat([]int{1}, 2000)} {
					back, used, ok := impl.UnRice(k, slices.Concat(bits, behind), n)
					holdUnRice(t, "UnRice of Rice", back, used, ok, list, len(bits))
				}
				fewer, used, ok := impl.UnRice(k, bits, n/2)
				holdUnRice(t, "UnRice of the first ones", fewer, used, ok, list[:n/2], riceLength(k, list[:n/2]))
				noUnRice(t, "one more number than there are", k, bits, n+1)
			}
		}
	}
}

// Wherever bits end, those numbers are told that are whole.
func TestPackUnRiceOfBitsThatEnd(t *testing.T) {
	g := formSource(1733)
	for _, k := range []int{0, 1, 2, 5, 11, 29, 30} {
		list := g.signal(min(4<<k, maxRice), 6)
		bits, _ := impl.Rice(k, list)
		for end := range len(bits) + 1 {
			for n := range len(list) + 2 {
				unRiceHolds(t, k, bits[:end], n)
				if n <= len(list) && riceLength(k, list[:n]) > end {
					noUnRice(t, "bits that end too early", k, bits[:end], n)
				}
			}
		}
	}
}

func TestPackUnRiceAgainstTexts(t *testing.T) {
	for k := range 5 {
		shortBits(9, func(bits []int) {
			for n := range 5 {
				unRiceHolds(t, k, bits, n)
			}
		})
	}
	for k := range maxLow + 1 {
		manyBitLists(1734, func(bits []int) {
			for _, n := range []int{0, 1, 2, 9, 30, maxFrame} {
				unRiceHolds(t, k, bits, n)
			}
		})
	}
}

// The turn 2 10^9 is that of 10^9, the one ahead that of -10^9; the one behind is that of a number beyond. With k of 10 the ones alone come up to it.
func TestPackUnRiceAtTheBounds(t *testing.T) {
	for k := 10; k <= maxLow; k++ {
		for far := -4; far <= 4; far++ {
			turn := 2*maxRice + far
			bits := append(slices.Repeat([]int{1}, turn>>k), bitsOfText("0"+digitsOf(bigOf(turn%(1<<k)), k))...)
			if far > 0 {
				noUnRice(t, "a number beyond 10^9", k, bits, 1)
				noUnRice(t, "a number beyond 10^9", k, append(bits, make([]int, 200)...), 2)
				first, used, ok := impl.UnRice(k, slices.Concat(make([]int, k+1), bits), 1)
				holdUnRice(t, "UnRice ahead of a number beyond", first, used, ok, []int{0}, k+1)
				continue
			}
			x := turn / 2
			if turn%2 != 0 {
				x = -(turn + 1) / 2
			}
			list, used, ok := impl.UnRice(k, bits, 1)
			holdUnRice(t, "UnRice", list, used, ok, []int{x}, len(bits))
		}
	}
}

// Rows of ones may be longer than Rice ever tells; those that no number could have are refused, ended or not.
func TestPackUnRiceOfLongRows(t *testing.T) {
	for _, ones := range []int{99999, 100000, 100001, 200000, 1000001} {
		bits := append(slices.Repeat([]int{1}, ones), 0)
		x := ones / 2
		if ones%2 == 1 {
			x = -(ones + 1) / 2
		}
		list, used, ok := impl.UnRice(0, bits, 1)
		holdUnRice(t, "UnRice of a long row", list, used, ok, []int{x}, ones+1)
		noUnRice(t, "a row without an end", 0, bits[:ones], 1)
		none, used, ok := impl.UnRice(0, bits, 0)
		holdUnRice(t, "UnRice of no number", none, used, ok, []int{}, 0)
	}
	for _, k := range []int{12, 20, 29, 30} {
		for _, ones := range []int{2*maxRice>>k + 1, 2*maxRice>>k + 2, 500000} {
			bits := append(slices.Repeat([]int{1}, ones), make([]int, 100)...)
			noUnRice(t, "a row that is too long", k, bits, 1)
			noUnRice(t, "a row that is too long", k, bits[:ones], 1)
		}
	}
}

func TestPackUnRiceWrong(t *testing.T) {
	for _, k := range []int{0, 1, 7, 30} {
		bits := make([]int, maxFrame*(k+1))
		all, used, ok := impl.UnRice(k, bits, maxFrame)
		holdUnRice(t, "UnRice of MaxFrame numbers", all, used, ok, make([]int, maxFrame), len(bits))
		for _, n := range append(beyond(maxFrame), -1, -2, maxFrame+1) {
			noUnRice(t, "such a count", k, bits, n)
			noUnRice(t, "such a count", k, make([]int, 6000), n)
			noUnRice(t, "such a count", k, nil, n)
		}
		none, used, ok := impl.UnRice(k, nil, 0)
		holdUnRice(t, "UnRice of nothing", none, used, ok, []int{}, 0)
		noUnRice(t, "no bits", k, nil, 1)
		for _, bad := range append(beyond(1), -1, 2) {
			for _, at := range []int{0, 1, len(bits) - 1, len(bits) + 50} {
				hurt := append(slices.Clone(bits), make([]int, 51)...)
				hurt[at] = bad
				for _, n := range []int{0, 1, maxFrame} {
					noUnRice(t, "what is no bit", k, hurt, n)
				}
			}
		}
	}
}

func TestPackBestRiceByHand(t *testing.T) {
	for _, c := range []struct {
		list    []int
		k, bits int
	}{
		{[]int{8, -8, 8}, 3, 17}, {[]int{}, 0, 0}, {[]int{0}, 0, 1}, {[]int{-1}, 0, 2}, {[]int{1}, 0, 3}, {[]int{-2}, 1, 3}, {[]int{2}, 1, 4},
		{[]int{5, 0, 0}, 1, 11}, {make([]int, maxFrame), 0, maxFrame},
		{[]int{maxRice}, 30, 32}, {[]int{-maxRice}, 30, 32}, {slices.Repeat([]int{maxRice}, maxFrame), 30, 32 * maxFrame},
	} {
		k, bits := impl.BestRice(c.list)
		slowK, slowBits := bestRiceSlow(c.list)
		if k != c.k || bits != c.bits || slowK != c.k || slowBits != c.bits {
			t.Errorf("BestRice of %v is %d, %d, of the oracle %d, %d, not %d, %d", c.list, k, bits, slowK, slowBits, c.k, c.bits)
		}
	}
}

func bestHolds(t *testing.T, list []int) {
	t.Helper()
	want, wantBits := bestRiceSlow(list)
	if k, bits := impl.BestRice(list); k != want || bits != wantBits {
		t.Errorf("BestRice of %v is %d, %d, not %d, %d", list, k, bits, want, wantBits)
	}
}

func TestPackBestRiceAgainstASearch(t *testing.T) {
	g := formSource(1735)
	shortSignals(3, 4, func(list []int) { bestHolds(t, list) })
	manyBlocks(1736, func(list []int) { bestHolds(t, list) })
	for _, n := range append([]int{0}, blockLengths...) {
		for power := range 30 {
			bestHolds(t, g.signal(1<<power, n))
			bestHolds(t, g.loud(1<<power, n))
			bestHolds(t, g.loud(1<<power-1, n))
		}
	}
}

// Among all k that Rice takes none has fewer bits, and none below it as few.
func TestPackBestRiceIsTheLeast(t *testing.T) {
	ties := 0
	manyBlocks(1737, func(list []int) {
		best, least := impl.BestRice(list)
		for k := range maxLow + 1 {
			bits, ok := impl.Rice(k, list)
			if ok && (len(bits) < least || k < best && len(bits) == least) {
				t.Errorf("BestRice of %v is %d, %d, but %d has %d bits", list, best, least, k, len(bits))
			}
			if k == best && (!ok || len(bits) != least) {
				t.Errorf("BestRice of %v is %d, %d, but Rice has %d bits, %v", list, best, least, len(bits), ok)
			}
			if k > best && ok && len(bits) == least {
				ties++
			}
		}
	})
	if ties < 20 {
		t.Errorf("there were %d ties alone", ties)
	}
}

func TestPackBestRiceOfNone(t *testing.T) {
	lists := [][]int{make([]int, maxFrame+1), make([]int, maxSignal), slices.Repeat([]int{1}, 5000)}
	for _, x := range beyond(maxRice) {
		lists = append(lists, []int{x}, []int{x, 0}, []int{0, 0, x}, append(make([]int, maxFrame-1), x))
	}
	for _, list := range lists {
		if k, bits := impl.BestRice(list); k != -1 || bits != 0 {
			t.Errorf("BestRice of %d numbers is %d, %d, not -1, 0", len(list), k, bits)
		}
	}
}
