package tests

import (
	"math"
	"slices"
	"testing"

	"loop.example/g00043/impl"
)

func TestSymbolPack8ByHand(t *testing.T) {
	for _, c := range []struct {
		bits string
		want []byte
	}{
		{"101000001", []byte{0xA0, 0x80}}, {"", nil}, {"0", []byte{0}}, {"1", []byte{0x80}}, {"01", []byte{0x40}}, {"1111111", []byte{0xFE}}, {"0000001", []byte{2}}, {"11111111", []byte{0xFF}}, {"00000001", []byte{1}}, {"10000000", []byte{0x80}}, {"01010101", []byte{0x55}},
		{"111111110", []byte{0xFF, 0}}, {"111111111", []byte{0xFF, 0x80}}, {"000000001", []byte{0, 0x80}}, {"000000000000000", []byte{0, 0}}, {"0100000101000010", []byte{'A', 'B'}}, {"01000001010000100", []byte{'A', 'B', 0}},
	} {
		bits := bitsOfText(c.bits)
		got, ok := impl.Pack8(bits)
		holdBytes(t, "Pack8 by hand", got, ok, c.want)
		back, ok := impl.Unpack8(c.want, len(bits))
		holdSignal(t, "Unpack8 by hand", back, ok, bits)
		holdBytes(t, "the oracle by hand", pack8Slow(bits), true, c.want)
		holdSignal(t, "the oracle back by hand", unpack8Slow(c.want, len(bits)), true, bits)
	}
}

func pack8Holds(t *testing.T, bits []int) {
	t.Helper()
	b, ok := impl.Pack8(bits)
	holdBytes(t, "Pack8", b, ok, pack8Slow(bits))
	back, ok := impl.Unpack8(b, len(bits))
	holdSignal(t, "Unpack8 of Pack8", back, ok, bits)
}

func TestSymbolPack8ThereAndBack(t *testing.T) {
	shortBits(10, func(bits []int) { pack8Holds(t, bits) })
	manyBitLists(1341, func(bits []int) { pack8Holds(t, bits) })
	g := formSource(1342)
	for n := range maxBits + 1 {
		pack8Holds(t, g.flips(n))
		pack8Holds(t, slices.Repeat([]int{1}, n))
	}
}

func unpack8Holds(t *testing.T, b []byte, n int) {
	t.Helper()
	got, ok := impl.Unpack8(b, n)
	holdSignal(t, "Unpack8", got, ok, unpack8Slow(b, n))
	back, ok := impl.Pack8(got)
	holdBytes(t, "Pack8 of Unpack8", back, ok, b)
}

func noUnpack8(t *testing.T, what string, b []byte, n int) {
	t.Helper()
	got, ok := impl.Unpack8(b, n)
	noSignal(t, "Unpack8 of "+what, got, ok)
}

func TestSymbolUnpack8OfEachByte(t *testing.T) {
	for x := range 256 {
		for n := range 10 {
			b := []byte{byte(x)}
			switch {
			case n < 1 || n > 8:
				noUnpack8(t, "too many bytes, or too few,", b, n)
			case x%(1<<(8-n)) != 0:
				noUnpack8(t, "a bit behind the last", b, n)
			default:
				unpack8Holds(t, b, n)
			}
			if n >= 1 && n <= 8 && x%(1<<(8-n)) == 0 {
				unpack8Holds(t, []byte{0xFF, 0, byte(x)}, 16+n)
			}
		}
	}
}

// Each single bit behind the n-th is seen, and none up to it.
func TestSymbolUnpack8OfSingleBits(t *testing.T) {
	for _, n := range []int{1, 7, 8, 9, 12, 15, 16, 17, 100, 1001, maxBits - 7, maxBits - 1, maxBits} {
		room := (n + 7) / 8 * 8
		for at := max(0, n-20); at < room; at++ {
			single := make([]int, room)
			single[at] = 1
			if at < n {
				unpack8Holds(t, pack8Slow(single), n)
			} else {
				noUnpack8(t, "a bit behind the last", pack8Slow(single), n)
			}
		}
	}
}

func TestSymbolUnpack8OfWrongCounts(t *testing.T) {
	for n := range maxBits + 1 {
		need := (n + 7) / 8
		unpack8Holds(t, make([]byte, need), n)
		noUnpack8(t, "a byte too many", make([]byte, need+1), n)
		if need > 0 {
			noUnpack8(t, "a byte too few", make([]byte, need-1), n)
			noUnpack8(t, "no byte", nil, n)
		}
	}
	unpack8Holds(t, nil, 0)
	unpack8Holds(t, []byte{}, 0)
	noUnpack8(t, "a byte for no bit", []byte{0}, 0)
	for _, n := range []int{-1, maxBits + 1, -2, -7, -8, -9, maxBits + 2, maxBits + 7, maxBits + 8, maxBits + 9, 2 * maxBits, 1 << 32, 1<<32 + 8, 8 - 1<<32, math.MaxInt, math.MaxInt - 7, math.MinInt, math.MinInt + 1, math.MinInt + 8} {
		for _, count := range []int{0, 1, 2, maxBits/8 - 1, maxBits / 8, maxBits/8 + 1, maxBits / 4, maxBits} {
			noUnpack8(t, "no such count", make([]byte, count), n)
		}
	}
	full := slices.Repeat([]byte{0xFF}, maxBits/8)
	unpack8Holds(t, full, maxBits)
	noUnpack8(t, "a bit behind the last", full, maxBits-1)
	noUnpack8(t, "one more than MaxBits", append(full, 0x80), maxBits+1)
}

func TestSymbolPack8ThatIsRefused(t *testing.T) {
	for _, list := range noBitLists() {
		got, ok := impl.Pack8(list)
		noBytes(t, "Pack8 of no bits", got, ok)
	}
}
