package tests

import (
	"slices"
	"testing"

	"loop.example/g00043/impl"
)

func crcHolds(t *testing.T, b []byte) {
	t.Helper()
	got := impl.Crc16(b)
	if byRule, byDivision := crcByRule(b), crcByDivision(b); got != byRule || got != byDivision {
		t.Errorf("Crc16 of %d bytes, from %v on, is %d, not %d by the rule and %d by division", len(b), b[:min(len(b), 20)], got, byRule, byDivision)
	}
}

func TestBlockCrcByHand(t *testing.T) {
	for _, c := range []struct {
		text string
		want int
	}{{"", 0xFFFF}, {"A", 0xB915}, {"123456789", 0x29B1}, {"\xFF\xFF", 0}, {"\x00", 0xE1F0}, {"\xFF", 0xFF00}} {
		holdInt(t, "Crc16", impl.Crc16([]byte(c.text)), c.want, c.text)
		holdInt(t, "the oracle", crcByRule([]byte(c.text)), c.want, c.text)
	}
	holdInt(t, "Crc16", impl.Crc16([]byte{}), 65535, "an empty list")
}

func TestBlockCrcOfOneByteAndTwo(t *testing.T) {
	for x := range 256 {
		crcHolds(t, []byte{byte(x)})
		for y := range 256 {
			crcHolds(t, []byte{byte(x), byte(y)})
		}
	}
}

func TestBlockCrcOfMany(t *testing.T) {
	g := formSource(1401)
	for n := range 300 {
		crcHolds(t, g.bytes(n))
		crcHolds(t, make([]byte, n))
		crcHolds(t, slices.Repeat([]byte{255}, n))
	}
	for _, n := range []int{512, 1000, 4095, 4096, 32767, 32768, 65534} {
		crcHolds(t, g.bytes(n))
	}
}

func TestBlockCrcAtItsLimit(t *testing.T) {
	g := formSource(1402)
	for _, b := range [][]byte{g.bytes(maxChecked), make([]byte, maxChecked), slices.Repeat([]byte{255}, maxChecked)} {
		crcHolds(t, b[:maxChecked-1])
		crcHolds(t, b)
		for _, more := range [][]byte{{1}, {255, 0}, b[:9], b} {
			longer := append(slices.Clone(b), more...)
			holdInt(t, "Crc16", impl.Crc16(longer), 0, "too many bytes", len(longer))
			if crcByRule(longer) == 0 {
				t.Error("by chance the rule gives 0 here too")
			}
		}
	}
}

// One byte turned changes the Crc16, wherever it stands and to whatever it is turned.
func TestBlockCrcTellsOneByte(t *testing.T) {
	g := formSource(1403)
	for _, n := range []int{1, 2, 3, 9, 40} {
		b := g.bytes(n)
		want := impl.Crc16(b)
		for at := range b {
			for x := 1; x < 256; x++ {
				turned := slices.Clone(b)
				turned[at] ^= byte(x)
				if impl.Crc16(turned) == want {
					t.Errorf("Crc16 of %v is that of %v", turned, b)
				}
			}
		}
	}
	long := g.bytes(maxChecked)
	want := impl.Crc16(long)
	for _, at := range []int{0, 1, 4095, 4096, 32766, 32767, 32768, maxChecked - 2, maxChecked - 1} {
		for _, x := range []byte{1, 2, 16, 128, 255} {
			turned := slices.Clone(long)
			turned[at] ^= x
			if impl.Crc16(turned) == want {
				t.Errorf("Crc16 does not tell the byte %d of 65536", at)
			}
		}
	}
}

// All single bytes have Crc16s of their own, and so have all bytes behind others.
func TestBlockCrcTellsAllBytesApart(t *testing.T) {
	g := formSource(1404)
	for _, ahead := range [][]byte{nil, {0}, {255, 255}, g.bytes(30)} {
		seen := map[int]int{}
		for x := range 256 {
			crc := impl.Crc16(append(slices.Clone(ahead), byte(x)))
			if crc < 0 || crc > 65535 {
				t.Errorf("Crc16 is %d", crc)
			}
			if other, ok := seen[crc]; ok {
				t.Errorf("behind %v the bytes %d and %d have one Crc16", ahead, other, x)
			}
			seen[crc] = x
		}
	}
}
