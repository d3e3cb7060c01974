package tests

import (
	"slices"
	"testing"

	"loop.example/g00043/impl"
)

func mendedOf(word []byte, mend int) ([]byte, bool) {
	told, _, ok := impl.RsMend(word, mend)
	return told, ok
}

// newBytes writes over what was answered, and wants the same answer once more and an argument as it was.
func newBytes(t *testing.T, what string, b []byte, call func(b []byte) ([]byte, bool)) {
	t.Helper()
	untouchedBytes(t, what, b, func(piece []byte) {
		first, ok := call(piece)
		if !ok {
			t.Fatalf("%s of %v is refused", what, b)
		}
		want := slices.Clone(first)
		fillWith(first, 0x5A)
		again, ok := call(piece)
		holdBytes(t, what+", again,", again, ok, want)
	})
}

func TestBlockAnswersAreNewMemory(t *testing.T) {
	manyCodes(1451, func(g *formSource, word []byte, mend int) {
		newBytes(t, "RsCode", word[:len(word)-2*mend], func(b []byte) ([]byte, bool) { return impl.RsCode(b, mend) })
		newBytes(t, "RsMend of a code word", word, func(b []byte) ([]byte, bool) { return mendedOf(b, mend) })
		newBytes(t, "RsMend", g.hurt(word, g.places(len(word), mend)), func(b []byte) ([]byte, bool) { return mendedOf(b, mend) })
		newBytes(t, "RsFill of a code word", word, func(b []byte) ([]byte, bool) { return impl.RsFill(b, nil, mend) })
		gone := g.places(len(word), 2*mend)
		untouchedInts(t, "RsFill", gone, func(places []int) {
			newBytes(t, "RsFill", g.hurt(word, gone), func(b []byte) ([]byte, bool) { return impl.RsFill(b, places, mend) })
		})
	})
}

// Spare room behind an argument is neither written, nor handed out behind an answer.
func TestBlockSpareRoomStays(t *testing.T) {
	g := formSource(1452)
	for mend := 1; mend <= maxMend; mend++ {
		word := codeSlow(g.bytes(20), mend)
		room := append(slices.Clone(word[:20]), slices.Repeat([]byte{0xA5}, 100)...)
		ahead := slices.Clone(room)
		for range 2 {
			told, ok := impl.RsCode(room[:20], mend)
			holdBytes(t, "RsCode with spare room", told, ok, word)
			fillWith(told, 0x5A)
			copy(room, word)
			copy(ahead, word)
			told, ok = mendedOf(room[:len(word)], mend)
			holdBytes(t, "RsMend with spare room", told, ok, word)
			fillWith(told, 0x5A)
			told, ok = impl.RsFill(room[:len(word)], []int{0, 1}, mend)
			holdBytes(t, "RsFill with spare room", told, ok, word)
			fillWith(told, 0x5A)
			if !slices.Equal(room, ahead) {
				t.Errorf("the room behind an argument was written: %v", room)
			}
		}
	}
}

func TestBlockReadsNoSpareRoom(t *testing.T) {
	g := formSource(1453)
	long := g.bytes(maxChecked + 5)
	crcHolds(t, long[:maxChecked])
	crcHolds(t, long[:7])
	crcHolds(t, long[:0])
	for mend := 1; mend <= maxMend; mend++ {
		codeHolds(t, long[:30], mend)
		noCodeOf(t, "nothing, with bytes behind", long[:0], mend)
		word := append(codeSlow(g.bytes(9), mend), 7, 7, 7)
		n := len(word) - 3
		if !impl.RsOk(word[:n], mend) || impl.RsOk(word, mend) {
			t.Errorf("RsOk of %v with mend %d", word[:n], mend)
		}
		mendsTo(t, word[:n], mend, word[:n], 0)
		fillsTo(t, word[:n], []int{0, -1, -1}[:1], mend, word[:n])
		noMendOf(t, "one byte that stands behind", make([]byte, maxBlock)[:2*mend], mend)
	}
}

func TestBlockRefusedArgumentsStay(t *testing.T) {
	g := formSource(1454)
	for _, n := range []int{0, 1, 2, 3, 16, 17, maxBlock, maxBlock + 1, 600} {
		for _, mend := range append(slices.Clone(noMends), 1, 2, maxMend) {
			untouchedBytes(t, "what may be refused", g.bytes(n), func(b []byte) {
				untouchedInts(t, "what may be refused", []int{1, 0, -1, n}, func(gone []int) {
					for _, told := range [][]byte{bytesOf(impl.RsCode(b, mend)), bytesOf(mendedOf(b, mend)), bytesOf(impl.RsFill(b, gone, mend)), bytesOf(impl.RsFill(b, gone[:1], mend)), bytesOf(impl.RsFill(b, gone[:0], mend))} {
						fillWith(told, 0x5A)
					}
					impl.RsOk(b, mend)
					impl.Crc16(b)
				})
			})
		}
	}
}

func bytesOf(list []byte, _ bool) []byte { return list }

// Nothing is kept: what is asked in between, of other words and other mends, changes no answer.
func TestBlockKeepsNothing(t *testing.T) {
	g := formSource(1455)
	data := g.bytes(50)
	word := codeSlow(data, 5)
	gone := g.places(len(word), 10)
	hurt, lost := g.hurt(word, g.places(len(word), 5)), g.hurt(word, gone)
	for mend := range maxMend + 2 {
		other := g.bytes(100)
		impl.RsCode(other, mend)
		impl.RsMend(other, mend)
		impl.RsFill(other, []int{3, 4, 90}, mend)
		impl.RsMend(lost, mend)
		impl.RsFill(hurt, gone, mend)
		impl.GfMul(mend, 300)
		impl.Ham(99)
		codeHolds(t, data, 5)
		mendsTo(t, hurt, 5, word, 5)
		fillsTo(t, lost, gone, 5, word)
		crcHolds(t, data)
		holdInt(t, "GfMul, again,", impl.GfMul(3, 7), 9)
		holdInt(t, "GfInv, again,", impl.GfInv(2), 142)
		unHamHolds(t, 22, 1, 1)
	}
}
