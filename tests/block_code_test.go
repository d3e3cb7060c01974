package tests

import (
	"slices"
	"testing"

	"loop.example/g00043/impl"
)

func codeHolds(t *testing.T, data []byte, mend int) {
	t.Helper()
	word, ok := impl.RsCode(data, mend)
	holdBytes(t, "RsCode", word, ok, codeSlow(data, mend))
	if len(word) != len(data)+2*mend || !slices.Equal(word[:len(data)], data) {
		t.Errorf("RsCode of %v has not the data in front: %v", data, word)
	}
	for at, power := range []byte{1, 2, 4, 8, 16, 32, 64, 128, 29, 58, 116, 232, 205, 135, 19, 38}[:2*mend] {
		if value := valueSlow(word, power); value != 0 {
			t.Errorf("RsCode of %v with mend %d is %d at the power %d", data, mend, value, at)
		}
	}
	if !impl.RsOk(word, mend) {
		t.Errorf("RsCode of %v with mend %d is no code word", data, mend)
	}
}

func TestBlockCodesByHand(t *testing.T) {
	for _, c := range []struct {
		data []byte
		mend int
		want []byte
	}{
		{[]byte{1}, 1, []byte{1, 3, 2}}, {[]byte{0}, 1, []byte{0, 0, 0}}, {[]byte{2}, 1, []byte{2, 6, 4}}, {[]byte{1, 0}, 1, []byte{1, 0, 7, 6}}, {[]byte{0, 1}, 1, []byte{0, 1, 3, 2}},
		{[]byte{1}, 2, []byte{1, 15, 54, 120, 64}}, {[]byte{0, 0, 1}, 2, []byte{0, 0, 1, 15, 54, 120, 64}},
	} {
		got, ok := impl.RsCode(c.data, c.mend)
		holdBytes(t, "RsCode by hand", got, ok, c.want)
		holdBytes(t, "the oracle by hand", codeSlow(c.data, c.mend), true, c.want)
	}
}

func TestBlockCodesOfShortData(t *testing.T) {
	for x := range 256 {
		for mend := 1; mend <= maxMend; mend++ {
			codeHolds(t, []byte{byte(x)}, mend)
			codeHolds(t, []byte{0, byte(x)}, mend)
			codeHolds(t, []byte{byte(x), 0, 255}, mend)
		}
	}
}

func TestBlockCodesOfAllLengths(t *testing.T) {
	g := formSource(1411)
	for mend := 1; mend <= maxMend; mend++ {
		for n := 1; n <= maxBlock-2*mend; n++ {
			codeHolds(t, g.bytes(n), mend)
		}
		for _, n := range dataLengths(mend) {
			codeHolds(t, make([]byte, n), mend)
			codeHolds(t, slices.Repeat([]byte{255}, n), mend)
			first := make([]byte, n)
			first[0] = 1
			codeHolds(t, first, mend)
		}
	}
}

func TestBlockCodesAtTheirLimits(t *testing.T) {
	g := formSource(1412)
	for mend := 1; mend <= maxMend; mend++ {
		most := maxBlock - 2*mend
		codeHolds(t, g.bytes(1), mend)
		codeHolds(t, g.bytes(most), mend)
		noCodeOf(t, "no data", nil, mend)
		noCodeOf(t, "no data", []byte{}, mend)
		for _, n := range []int{most + 1, most + 2, maxBlock - 1, maxBlock, maxBlock + 1, 256 + 1, 512, 5000} {
			if n > most {
				noCodeOf(t, "too much data", g.bytes(n), mend)
				noCodeOf(t, "too many noughts", make([]byte, n), mend)
			}
		}
	}
	for _, mend := range noMends {
		for _, n := range []int{0, 1, 2, 3, 17, 100, 237, 239, 240, 253, 254, 255, 256, 300} {
			noCodeOf(t, "a wrong mend", g.bytes(n), mend)
		}
	}
}

func TestBlockRsOkOfCodesAndTurnedBytes(t *testing.T) {
	manyCodes(1413, func(g *formSource, word []byte, mend int) {
		if !impl.RsOk(word, mend) {
			t.Errorf("RsOk of %v with mend %d", word, mend)
		}
		for place := range word {
			if turned := g.hurt(word, []int{place}); impl.RsOk(turned, mend) {
				t.Errorf("RsOk of %v, turned at %d, with mend %d", word, place, mend)
			}
		}
		for count := 2; count <= 2*mend; count++ {
			if hurt := g.hurt(word, g.places(len(word), count)); impl.RsOk(hurt, mend) {
				t.Errorf("RsOk of %v, hurt in %d bytes, with mend %d", hurt, count, mend)
			}
		}
		for other := -1; other <= maxMend+1; other++ {
			okHolds(t, word, other)
		}
	})
}

func TestBlockRsOkOfEachTurn(t *testing.T) {
	g := formSource(1414)
	for mend := 1; mend <= maxMend; mend++ {
		word := codeSlow(g.bytes(3), mend)
		for place := range word {
			for x := 1; x < 256; x++ {
				turned := slices.Clone(word)
				turned[place] ^= byte(x)
				if impl.RsOk(turned, mend) {
					t.Errorf("RsOk of %v with mend %d", turned, mend)
				}
			}
		}
	}
}

// Of all words of three bytes just 256 are code words of mend 1; sums of code words are code words.
func TestBlockRsOkOfAllShortWords(t *testing.T) {
	count := 0
	for number := range 1 << 24 {
		word := [3]byte{byte(number >> 16), byte(number >> 8), byte(number)}
		if impl.RsOk(word[:], 1) {
			count++
			okHolds(t, word[:], 1)
		}
	}
	holdInt(t, "the count of code words", count, 256)
	g := formSource(1415)
	for mend := 1; mend <= maxMend; mend++ {
		a, b := codeSlow(g.bytes(60), mend), codeSlow(g.bytes(60), mend)
		for at := range a {
			a[at] ^= b[at]
		}
		okHolds(t, a, mend)
	}
}

func TestBlockRsOkOfWrongLengths(t *testing.T) {
	for mend := 1; mend <= maxMend; mend++ {
		for n := range 2*maxBlock + 3 {
			if got := impl.RsOk(make([]byte, n), mend); got != (n >= 2*mend+1 && n <= maxBlock) {
				t.Errorf("RsOk of %d noughts with mend %d is %v", n, mend, got)
			}
		}
		if impl.RsOk(nil, mend) {
			t.Errorf("RsOk of nothing with mend %d", mend)
		}
	}
	for _, mend := range noMends {
		for n := range maxBlock + 3 {
			if impl.RsOk(make([]byte, n), mend) {
				t.Errorf("RsOk of %d noughts with mend %d", n, mend)
			}
		}
	}
}
