package tests

import (
	"math"
	"slices"
	"testing"

	"loop.example/g00043/impl"
)

// codeIs wants nothing, the place as it was, and that code, of OpenFrame and of the oracle.
func codeIs(t *testing.T, what string, b []byte, at, want int) {
	t.Helper()
	got, next, code := impl.OpenFrame(b, at)
	holdFrame(t, what+", "+textOfBytes(b)+",", got, next, code, []int{}, at, want)
	if _, _, slow := openFrameSlow(b, at); slow != want {
		t.Errorf("%s: the oracle tells %d of %v", what, slow, b)
	}
}

// bodyOf is a frame without its check, with bits told as a text.
func bodyOf(count, order, k int, text string) []byte {
	return append([]byte{70, byte(count - 1), byte(32*order + k)}, pack8Slow(bitsOfText(text))...)
}

func TestPackOpenPlaces(t *testing.T) {
	b := packed(t, []int{3, 1, 4, 1, 5})
	for _, at := range []int{-1, -2, -len(b), math.MinInt, len(b) + 1, len(b) + 2, 1 << 32, math.MaxInt, math.MaxInt - 1, math.MaxInt - 2, math.MaxInt - 3} {
		codeIs(t, "a place that is none", b, at, impl.FrameShort)
		codeIs(t, "a place that is none", nil, at, impl.FrameShort)
	}
	for _, at := range []int{len(b), len(b) - 1, len(b) - 2} {
		codeIs(t, "fewer than three bytes", b, at, impl.FrameShort)
	}
	codeIs(t, "no bytes", nil, 0, impl.FrameShort)
	codeIs(t, "no bytes", []byte{}, 0, impl.FrameShort)
	for at := range len(b) + 3 {
		openHolds(t, "at each place", b, at)
		openHolds(t, "at each place", slices.Concat(b, b, b), at)
	}
	got, next, code := impl.OpenFrame(slices.Concat(b, b), len(b))
	holdFrame(t, "the second frame", got, next, code, []int{3, 1, 4, 1, 5}, 2*len(b), impl.FrameOk)
}

func TestPackOpenHeads(t *testing.T) {
	for x := range 256 {
		for y := range 256 {
			first := []byte{byte(x), byte(y), 0, 0}
			want := impl.FrameHead
			if x == 70 && y < 128 {
				want = impl.FrameBits
				if y < 8 {
					want = impl.FrameShort
				}
			}
			codeIs(t, "the first two bytes", first, 0, want)
			second := []byte{70, byte(x), byte(y)}
			want = impl.FrameHead
			if x < 128 && y%32 < 31 && y/32 < 4 {
				want = impl.FrameBits
			}
			codeIs(t, "the last two bytes of a head", second, 0, want)
		}
	}
	// Sealed and long enough, it is still the head that is told.
	for _, head := range [][]byte{{71, 0, 0}, {69, 0, 0}, {0, 0, 0}, {6, 0, 0}, {70 ^ 128, 0, 0}, {70, 128, 0}, {70, 255, 0}, {70, 0, 31}, {70, 0, 63}, {70, 0, 95}, {70, 0, 127}, {70, 0, 128}, {70, 0, 159}, {70, 0, 160}, {70, 0, 255}} {
		codeIs(t, "a wrong head", sealed(append(slices.Clone(head), make([]byte, 600)...)), 0, impl.FrameHead)
		codeIs(t, "a wrong head", sealed(append(slices.Clone(head), 0)), 0, impl.FrameHead)
		codeIs(t, "a wrong head", head, 0, impl.FrameHead)
		codeIs(t, "a wrong head", append(slices.Clone(head), 255), 0, impl.FrameHead)
		codeIs(t, "too few bytes of a wrong head", head[:2], 0, impl.FrameShort)
		codeIs(t, "too few bytes of a wrong head", head[:1], 0, impl.FrameShort)
	}
}

// At the ends of what a head may say: MaxFrame samples, k of 30, and order 3.
func TestPackOpenHeadsAtTheirLimits(t *testing.T) {
	g := formSource(1751)
	for _, list := range [][]int{make([]int, maxFrame), {maxSample}, g.signal(maxSample, maxFrame), g.curve(3, 1, 100)} {
		b := packed(t, list)
		got, next, code := impl.OpenFrame(b, 0)
		holdFrame(t, "OpenFrame", got, next, code, list, len(b), impl.FrameOk)
	}
	if b := packed(t, g.curve(3, 1, 100)); b[2]/32 != 3 {
		t.Errorf("no order 3: %v", b[:3])
	}
	if b := packed(t, []int{maxSample}); b[2] != 30 {
		t.Errorf("no k of 30: %v", b[:3])
	}
}

// Cut at each place a frame is short, or its bits end too early.
func TestPackOpenOfCutFrames(t *testing.T) {
	g := formSource(1752)
	for _, n := range []int{1, 2, 3, 9, 40, maxFrame} {
		for _, list := range g.blocks(n) {
			b := packed(t, list)
			for end := range b {
				want := impl.FrameBits
				if end < 3 || end >= len(b)-2 {
					want = impl.FrameShort
				}
				got, next, code := impl.OpenFrame(b[:end], 0)
				holdFrame(t, "a frame cut off", got, next, code, []int{}, 0, want)
				if n < 5 {
					codeIs(t, "a frame cut off", b[:end], 0, want)
				}
			}
		}
	}
}

func TestPackOpenOfWrongBits(t *testing.T) {
	for _, tail := range [][]byte{{}, {255}, {255, 255}, {255, 255, 255, 255}} {
		codeIs(t, "a row of ones without an end", append([]byte{70, 0, 0}, tail...), 0, impl.FrameBits)
		codeIs(t, "a row of ones without an end", append([]byte{70, 127, 96}, tail...), 0, impl.FrameBits)
	}
	codeIs(t, "low bits that are not there", []byte{70, 0, 30, 0, 0, 0}, 0, impl.FrameBits)
	codeIs(t, "low bits that are there, and nothing behind", []byte{70, 0, 30, 0, 0, 0, 0}, 0, impl.FrameShort)
	codeIs(t, "a second number that is not there", []byte{70, 1, 7, 0}, 0, impl.FrameBits)
	// The bits of numbers beyond 10^9 are none, whatever the check says.
	for far := 1; far <= 4; far++ {
		for k := 24; k <= 30; k++ {
			ones, low := (2*maxRice+far)>>k, (2*maxRice+far)%(1<<k)
			text := string(slices.Repeat([]byte{'1'}, ones)) + "0" + digitsOf(bigOf(low), k)
			body := bodyOf(1, 0, k, text)
			codeIs(t, "a number beyond 10^9, sealed", sealed(body), 0, impl.FrameBits)
			codeIs(t, "a number beyond 10^9", append(body, 0, 0), 0, impl.FrameBits)
			codeIs(t, "a number beyond 10^9, and nothing behind", body, 0, impl.FrameBits)
			body = bodyOf(2, 0, k, digitsOf(bigOf(0), k+1)+text)
			codeIs(t, "a second number beyond 10^9, sealed", sealed(body), 0, impl.FrameBits)
		}
	}
	codeIs(t, "a row too long", sealed(append([]byte{70, 0, 30}, slices.Repeat([]byte{255}, 300)...)), 0, impl.FrameBits)
	codeIs(t, "a row too long that ends", sealed(append(append([]byte{70, 0, 30}, slices.Repeat([]byte{255}, 300)...), make([]byte, 300)...)), 0, impl.FrameBits)
}

func TestPackOpenOfTurnedChecks(t *testing.T) {
	for _, list := range [][]int{{0}, {5, 5, 5}, {1, -100, 3, maxSample}} {
		b := packed(t, list)
		for bit := range 16 {
			hurt := slices.Clone(b)
			hurt[len(b)-2+bit/8] ^= 1 << (bit % 8)
			codeIs(t, "a turned check", hurt, 0, impl.FrameCheck)
			codeIs(t, "a turned check with bytes behind", append(hurt, b...), 0, impl.FrameCheck)
			codeIs(t, "a turned check of which one byte is there", hurt[:len(b)-1], 0, impl.FrameShort)
		}
		swapped := slices.Clone(b)
		swapped[len(b)-1], swapped[len(b)-2] = b[len(b)-2], b[len(b)-1]
		codeIs(t, "the lower byte first", swapped, 0, impl.FrameCheck)
	}
}

// Frames with a right check that tell a block otherwise than PackFrame does are none.
func TestPackOpenOfOtherShapes(t *testing.T) {
	g := formSource(1753)
	lists := [][]int{{0}, {1}, {-1, 1}, {5, 5, 5}, {1, 2, 3, 4}, {0, 0, 0, 0, 0}, g.signal(9, 6), g.curve(2, 3, 12), g.curve(3, 1, 20), g.signal(1000, 7)}
	tried := 0
	for _, list := range lists {
		right := packed(t, list)
		for order := range maxOrder + 1 {
			left := guessSlow(order, list)
			for k := range maxLow + 1 {
				if riceLength(k, left) > 3000 {
					continue
				}
				b := frameOf(list, order, k)
				if slices.Equal(b, right) {
					got, next, code := impl.OpenFrame(b, 0)
					holdFrame(t, "the frame itself", got, next, code, list, len(b), impl.FrameOk)
					continue
				}
				codeIs(t, "a frame of another shape", b, 0, impl.FrameForm)
				b[len(b)-1] ^= 1
				codeIs(t, "a frame of another shape with another check", b, 0, impl.FrameCheck)
				codeIs(t, "a frame of another shape, cut off", b[:len(b)-1], 0, impl.FrameShort)
				tried++
			}
		}
	}
	if tried < 600 {
		t.Errorf("%d other shapes were tried alone", tried)
	}
}

// An order that is not below how many samples there are leaves the same numbers as a lesser one, and is no frame.
func TestPackOpenOfOrdersTooHigh(t *testing.T) {
	for n, list := range [][]int{1: {7}, 2: {7, 9}, 3: {7, 9, 11}} {
		for order := n; order <= maxOrder && n > 0; order++ {
			for k := range maxLow + 1 {
				codeIs(t, "an order too high", frameOf(list, order, k), 0, impl.FrameForm)
			}
		}
	}
}

func TestPackOpenOfFillings(t *testing.T) {
	manyBlocks(1754, func(list []int) {
		if len(list) > 9 {
			return
		}
		b := packed(t, list)
		body := b[:len(b)-2]
		left, _ := impl.Guess(int(b[2])/32, list)
		used := riceLength(int(b[2])%32, left)
		for bit := used; bit%8 != 0; bit++ {
			hurt := slices.Clone(body)
			hurt[len(body)-1] |= 128 >> (bit % 8)
			codeIs(t, "a bit of 1 in the filling, sealed", sealed(hurt), 0, impl.FrameForm)
			codeIs(t, "a bit of 1 in the filling", append(hurt, b[len(b)-2:]...), 0, impl.FrameCheck)
		}
		codeIs(t, "a byte too much ahead of the check", sealed(append(slices.Clone(body), 0)), 0, impl.FrameCheck)
	})
}

// Samples beyond their bounds are no block: the form is told, but only behind the check.
func TestPackOpenOfNoSamples(t *testing.T) {
	for _, sign := range []int{1, -1} {
		end := sign * maxSample
		for order, left := range map[int][][]int{
			1: {{end, sign}, {end, sign, -sign}, {0, end, sign}, {end, end}},
			2: {{end, sign}, {end, 0, sign}, {0, end, 0}, {end, end, end}},
			3: {{end, sign, 0}, {end, 0, 0, sign}, {end, end, end, end}, {end, 0, 0, sign, -3 * sign}},
		} {
			for _, list := range left {
				body := bodyOf(len(list), order, 30, riceSlow(30, list))
				b := sealed(body)
				codeIs(t, "samples beyond their bounds", b, 0, impl.FrameForm)
				b[len(b)-2] ^= 64
				codeIs(t, "samples beyond their bounds, and another check", b, 0, impl.FrameCheck)
				codeIs(t, "samples beyond their bounds, and no check", body, 0, impl.FrameShort)
			}
		}
	}
}

// Where several codes are so at once, that one is told which is asked first.
func TestPackOpenTellsTheFirstCode(t *testing.T) {
	wrongForm := frameOf([]int{5, 5, 5}, 0, 9)
	for _, c := range []struct {
		what string
		b    []byte
		at   int
		want int
	}{
		{"no place, and a wrong head", []byte{1, 2, 3}, 4, impl.FrameShort},
		{"too few bytes of a wrong head", []byte{1, 255}, 0, impl.FrameShort},
		{"a wrong head, and no bits", []byte{1, 255, 255}, 0, impl.FrameHead},
		{"a wrong second byte alone, and no bits", []byte{70, 255, 0}, 0, impl.FrameHead},
		{"a wrong third byte alone, and no bits", []byte{70, 0, 255}, 0, impl.FrameHead},
		{"no bits, and no check", []byte{70, 0, 0}, 0, impl.FrameBits},
		{"bits that end in what could be a check", []byte{70, 63, 0, 0, 0}, 0, impl.FrameBits},
		{"one byte behind, which is wrong", []byte{70, 0, 0, 0, 1}, 0, impl.FrameShort},
		{"nothing behind the bits of another shape", wrongForm[:len(wrongForm)-2], 0, impl.FrameShort},
		{"two bytes behind, which are wrong, of another shape", append(slices.Clone(wrongForm[:len(wrongForm)-2]), 0, 0), 0, impl.FrameCheck},
		{"another shape", wrongForm, 0, impl.FrameForm},
		{"another shape behind something", append([]byte{70, 70}, wrongForm...), 2, impl.FrameForm},
	} {
		codeIs(t, c.what, c.b, c.at, c.want)
	}
}

// Bytes by chance behind a right head, and frames with some of their bytes hurt, are told as the oracle tells them.
func TestPackOpenAgainstTheOracle(t *testing.T) {
	g := formSource(1755)
	for range 20000 {
		b := append([]byte{70, byte(g.next() % 20), byte(g.next() % 128)}, g.bytes(int(g.next()%24))...)
		openHolds(t, "bytes by chance", b, 0)
		openHolds(t, "bytes by chance, sealed", sealed(b), 0)
	}
	for range 300 {
		n := int(1 + g.next()%12)
		for _, list := range g.blocks(n) {
			b := packed(t, list)
			openHolds(t, "a frame that is hurt", g.hurt(b, g.places(len(b), 1)), 0)
			openHolds(t, "a frame that is hurt", append(g.hurt(b, g.places(len(b), 2)), b...), 0)
			hurt := g.hurt(b[:len(b)-2], g.places(len(b)-2, 1))
			openHolds(t, "a frame that is hurt, and sealed", sealed(hurt), 0)
		}
	}
}

// Bits may go on for longer than a check is told of: Crc16 of more bytes than it takes is 0, and no such bytes are a frame.
func TestPackOpenOfVeryLongBits(t *testing.T) {
	for _, count := range []int{10000, 65536 - 5, 65536 - 4, 65536 - 3, 100000} {
		body := append([]byte{70, 0, 0}, slices.Repeat([]byte{255}, count)...)
		b := append(slices.Clone(body), 0)
		codes := map[bool]int{true: impl.FrameForm, false: impl.FrameCheck}
		check := impl.Crc16(b)
		for _, x := range []int{check, 0, 1, 65535} {
			all := append(slices.Clone(b), byte(x>>8), byte(x))
			got, next, code := impl.OpenFrame(all, 0)
			holdFrame(t, "very long bits", got, next, code, []int{}, 0, codes[x == check])
		}
		got, next, code := impl.OpenFrame(body, 0)
		holdFrame(t, "very long bits without an end", got, next, code, []int{}, 0, impl.FrameBits)
		got, next, code = impl.OpenFrame(append(b, 0), 0)
		holdFrame(t, "very long bits with one byte behind", got, next, code, []int{}, 0, impl.FrameShort)
	}
}

// In a long list of bytes a frame is opened where it lies, however much stands about it.
func TestPackOpenInALongList(t *testing.T) {
	frame := packed(t, []int{1, 2, 4, 7})
	ahead, behind := slices.Repeat([]byte{70}, 1000000), slices.Repeat([]byte{255}, 1000000)
	b := slices.Concat(ahead, frame, behind)
	for range 200 {
		got, next, code := impl.OpenFrame(b, len(ahead))
		holdFrame(t, "a frame in a long list", got, next, code, []int{1, 2, 4, 7}, len(ahead)+len(frame), impl.FrameOk)
	}
}

// A frame that is hurt in one byte, whichever that is and whatever it becomes, is not told as another block. (Where the second byte says fewer samples, the check's sixteen bits alone stand against it: a block can be sought whose frame then ends as another one's does. Among these here there is none.)
func TestPackHurtFramesAreNotOthers(t *testing.T) {
	g := formSource(1756)
	for _, n := range []int{1, 2, 3, 4, 5, 8, 13, 20} {
		for _, list := range g.blocks(n) {
			b := packed(t, list)
			for at := range b {
				for turn := 1; turn < 256; turn++ {
					hurt := slices.Clone(b)
					hurt[at] ^= byte(turn)
					got, next, code := impl.OpenFrame(hurt, 0)
					if code == impl.FrameOk || len(got) != 0 || next != 0 {
						t.Fatalf("%v, of which byte %d was %d, is told as %v, %d, %d", hurt, at, b[at], got, next, code)
					}
				}
			}
		}
	}
	for _, list := range g.blocks(maxFrame) {
		b := packed(t, list)
		for at := range b {
			hurt := g.hurt(b, []int{at})
			if got, _, code := impl.OpenFrame(hurt, 0); code == impl.FrameOk {
				t.Fatalf("%v, hurt at %d, is told as %v", hurt, at, got)
			}
		}
	}
}
