package tests

import (
	"cmp"
	"math/big"
	"slices"
	"strconv"
	"strings"
	"testing"

	"loop.example/g00043/impl"
)

// The oracle of packing: what is left are differences of differences, in numbers without an end; bits are texts of noughts and ones; the shape of a frame is searched among all; a frame is opened by the words of its codes, one after the other.

const (
	maxFrame    = impl.MaxFrame
	maxFile     = impl.MaxFile
	maxFrames   = impl.MaxFrames
	maxRice     = 1000000000
	maxRiceBits = 100000
	maxLow      = 30
	maxOrder    = 3
)

func TestPackConstants(t *testing.T) {
	for at, pair := range [][2]int{
		{impl.MaxFrame, 128}, {impl.MaxFile, 20000}, {impl.MaxFrames, 60},
		{impl.FrameOk, 0}, {impl.FrameShort, 1}, {impl.FrameHead, 2}, {impl.FrameBits, 3}, {impl.FrameCheck, 4}, {impl.FrameForm, 5},
	} {
		holdInt(t, "the constant", pair[0], pair[1], at)
	}
}

// difference is what is left at a place when so many samples ahead foretell it.
func difference(list []*big.Int, at, times int) *big.Int {
	if times == 0 {
		return list[at]
	}
	return new(big.Int).Sub(difference(list, at, times-1), difference(list, at-1, times-1))
}

func guessSlow(order int, list []int) []int {
	samples, left := []*big.Int{}, []int{}
	for at, x := range list {
		samples = append(samples, bigOf(x))
		left = append(left, int(difference(samples, at, min(at, order)).Int64()))
	}
	return left
}

// unGuessSlow lays a nought at each place: what the difference there is short of is the sample.
func unGuessSlow(order int, left []int) ([]int, bool) {
	samples, told, ok := []*big.Int{}, []int{}, true
	for at, x := range left {
		samples = append(samples, bigOf(0))
		samples[at] = new(big.Int).Sub(bigOf(x), difference(samples, at, min(at, order)))
		ok = ok && samples[at].CmpAbs(bigOf(maxSample)) <= 0
	}
	if !ok {
		return []int{}, false
	}
	for _, x := range samples {
		told = append(told, int(x.Int64()))
	}
	return told, true
}

// turnOf is the place of a number in 0, -1, 1, -2, 2, ..
func turnOf(x int) *big.Int {
	double := new(big.Int).Lsh(bigOf(x), 1)
	if x < 0 {
		return double.Sub(double.Neg(double), bigOf(1))
	}
	return double
}

func atTurn(turn *big.Int) *big.Int {
	half, odd := new(big.Int).QuoRem(turn, bigOf(2), new(big.Int))
	if odd.Sign() == 0 {
		return half
	}
	return half.Sub(half.Neg(half), bigOf(1))
}

// riceLength counts the bits without laying any.
func riceLength(k int, list []int) int {
	count := 0
	for _, x := range list {
		count += int(new(big.Int).Rsh(turnOf(x), uint(k)).Int64()) + 1 + k
	}
	return count
}

func digitsOf(x *big.Int, count int) string {
	if count == 0 {
		return ""
	}
	digits := x.Text(2)
	return strings.Repeat("0", count-len(digits)) + digits
}

func riceSlow(k int, list []int) string {
	text := strings.Builder{}
	for _, x := range list {
		ones, low := new(big.Int).QuoRem(turnOf(x), stepOf(k), new(big.Int))
		text.WriteString(strings.Repeat("1", int(ones.Int64())) + "0" + digitsOf(low, k))
	}
	return text.String()
}

func unRiceSlow(k int, text string, n int) ([]int, int, bool) {
	told, used := []int{}, 0
	for range n {
		ones := strings.IndexByte(text[used:], '0')
		if ones < 0 || len(text) < used+ones+1+k {
			return []int{}, 0, false
		}
		low := numberOfText("0" + text[used+ones+1:][:k])
		x := atTurn(sumBig(low).Add(timesBig(ones, stepOf(k)), bigOf(low)))
		if x.CmpAbs(bigOf(maxRice)) > 0 {
			return []int{}, 0, false
		}
		told, used = append(told, int(x.Int64())), used+ones+1+k
	}
	return told, used, true
}

func isRiceList(list []int) bool {
	return len(list) <= maxFrame && !slices.ContainsFunc(list, func(x int) bool { return x < -maxRice || x > maxRice })
}

// A frameTry is one of the shapes that a frame could have, and how many bits that takes.
type frameTry struct{ count, order, k int }

func byCount(a, b frameTry) int {
	return cmp.Or(cmp.Compare(a.count, b.count), cmp.Compare(a.order, b.order), cmp.Compare(a.k, b.k))
}

func riceTries(order int, list []int) []frameTry {
	tries := []frameTry{}
	for k := range maxLow + 1 {
		if isRiceList(list) && riceLength(k, list) <= maxRiceBits {
			tries = append(tries, frameTry{riceLength(k, list), order, k})
		}
	}
	return tries
}

func bestRiceSlow(list []int) (int, int) {
	tries := riceTries(0, list)
	if len(tries) == 0 {
		return -1, 0
	}
	best := slices.MinFunc(tries, byCount)
	return best.k, best.count
}

// frameTries are all shapes of a frame for a block.
func frameTries(list []int) []frameTry {
	tries := []frameTry{}
	for order := range maxOrder + 1 {
		if order < len(list) {
			tries = append(tries, riceTries(order, guessSlow(order, list))...)
		}
	}
	return tries
}

// sealed lays the check behind bytes, right or not as they are.
func sealed(b []byte) []byte {
	check := crcByRule(b)
	return append(slices.Clone(b), byte(check/256), byte(check%256))
}

// frameOf makes a frame of any shape: one of PackFrame's, or one that only looks so.
func frameOf(list []int, order, k int) []byte {
	head := []byte{70, byte(len(list) - 1), byte(32*order + k)}
	return sealed(append(head, pack8Slow(bitsOfText(riceSlow(k, guessSlow(order, list))))...))
}

func packFrameSlow(list []int) []byte {
	best := slices.MinFunc(frameTries(list), byCount)
	return frameOf(list, best.order, best.k)
}

func openFrameSlow(b []byte, at int) ([]int, int, int) {
	if at < 0 || at > len(b) || len(b[at:]) < 3 {
		return []int{}, at, impl.FrameShort
	}
	head, rest := b[at:at+3], b[at+3:]
	if head[0] != 70 || head[1] >= 128 || head[2]>>5 > 3 || head[2]&31 == 31 {
		return []int{}, at, impl.FrameHead
	}
	left, used, ok := unRiceSlow(int(head[2]&31), textOfBits(bitsOfBytes(rest)), int(head[1])+1)
	if !ok {
		return []int{}, at, impl.FrameBits
	}
	for used%8 != 0 {
		used++
	}
	if len(rest) < used/8+2 {
		return []int{}, at, impl.FrameShort
	}
	frame := b[at : at+3+used/8+2]
	if !slices.Equal(frame, sealed(frame[:len(frame)-2])) {
		return []int{}, at, impl.FrameCheck
	}
	samples, ok := unGuessSlow(int(head[2]>>5), left)
	if !ok || !slices.Equal(frame, packFrameSlow(samples)) {
		return []int{}, at, impl.FrameForm
	}
	return samples, at + len(frame), impl.FrameOk
}

func packAllSlow(list []int, size int) []byte {
	b := []byte{}
	for piece := range slices.Chunk(list, size) {
		b = append(b, packFrameSlow(piece)...)
	}
	return b
}

// openAllSlow begins anew at each frame, with what is left of the bytes.
func openAllSlow(b []byte) ([]int, []int, int) {
	samples, places := []int{}, []int{}
	if len(b) > maxFile {
		return samples, places, impl.FrameShort
	}
	for rest := b; ; {
		if len(rest) == 0 {
			return samples, places, impl.FrameOk
		}
		if len(places) >= maxFrames {
			return samples, places, impl.FrameForm
		}
		block, size, code := openFrameSlow(rest, 0)
		if code != impl.FrameOk {
			return samples, places, code
		}
		samples, places = append(samples, block...), append(places, len(b)-len(rest))
		rest = rest[size:]
	}
}

// seekSlow writes beside each sample in which frame it lies.
func seekSlow(b []byte, sample int) (int, int) {
	_, places, _ := openAllSlow(b)
	lies, ahead := []int{}, map[int]int{}
	for _, place := range places {
		block, _, _ := openFrameSlow(b, place)
		ahead[place] = len(lies)
		lies = append(lies, slices.Repeat([]int{place}, len(block))...)
	}
	if sample < 0 || sample >= len(lies) {
		return -1, 0
	}
	return lies[sample], ahead[lies[sample]]
}

// mendSlowly counts the bytes that no frame has.
func mendSlowly(b []byte) ([]int, int) {
	samples, has, frames := []int{}, 0, 0
	if len(b) > maxFile {
		return samples, 0
	}
	for at := 0; at < len(b) && frames < maxFrames; at++ {
		block, next, code := openFrameSlow(b, at)
		if code == impl.FrameOk {
			samples, has, frames = append(samples, block...), has+next-at, frames+1
			at = next - 1
		}
	}
	return samples, len(b) - has
}

// blockLengths are the least, the greatest, those about an order, and some between.
var blockLengths = []int{1, 2, 3, 4, 5, 7, 8, 9, 16, 31, 64, 100, maxFrame - 1, maxFrame}

// curve gives samples that an order foretells but for so much: the difference of that order is noise.
func (g *formSource) curve(order, noise, count int) []int {
	list, steps := []int{}, make([]int, order+1)
	for at := range steps {
		steps[at] = g.within(50)
	}
	for range count {
		steps[order] = g.within(noise)
		for at := order; at > 0; at-- {
			steps[at-1] = min(max(steps[at-1]+steps[at], -maxSample), maxSample)
		}
		list = append(list, steps[0])
	}
	return list
}

// blocks gives lists that each order and each k fit best, with many ties, and at the ends.
func (g *formSource) blocks(count int) [][]int {
	lists := [][]int{make([]int, count), slices.Repeat([]int{5}, count), slices.Repeat([]int{-maxSample}, count), slices.Repeat([]int{maxSample}, count), counted(count), g.loud(maxSample, count), g.atEnds(maxSample, count)}
	for order := range maxOrder + 1 {
		for _, noise := range []int{0, 1, 3, 100} {
			lists = append(lists, g.curve(order, noise, count))
		}
	}
	for most := 1; most <= maxSample; most *= 10 {
		lists = append(lists, g.signal(most, count))
	}
	return lists
}

func manyBlocks(seed uint64, call func(list []int)) {
	g := formSource(seed)
	for _, n := range blockLengths {
		for _, list := range g.blocks(n) {
			call(list)
		}
	}
}

func holdFrame(t *testing.T, what string, got []int, next, code int, want []int, wantNext, wantCode int) {
	t.Helper()
	if !slices.Equal(got, want) || next != wantNext || code != wantCode {
		t.Errorf("%s is %v, %d, %d, not %v, %d, %d", what, got, next, code, want, wantNext, wantCode)
	}
}

// openHolds holds OpenFrame against the oracle.
func openHolds(t *testing.T, what string, b []byte, at int) {
	t.Helper()
	want, wantNext, wantCode := openFrameSlow(b, at)
	got, next, code := impl.OpenFrame(b, at)
	holdFrame(t, what+", "+textOfBytes(b)+" at "+strconv.Itoa(at)+",", got, next, code, want, wantNext, wantCode)
}

func textOfBytes(b []byte) string {
	texts := []string{}
	for _, x := range b[:min(len(b), 40)] {
		texts = append(texts, strconv.Itoa(int(x)))
	}
	return strings.Join(texts, " ")
}
