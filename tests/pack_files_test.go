package tests

import (
	"math"
	"slices"
	"testing"

	"loop.example/g00043/impl"
)

var noFrameSizes = append(beyond(maxFrame), -1, 0, -maxFrame, maxFrame+1, maxSignal, 1<<32+1)

func filePacked(t *testing.T, list []int, size int) []byte {
	t.Helper()
	b, ok := impl.PackAll(list, size)
	if !ok {
		t.Fatalf("PackAll of %v by %d is refused", list, size)
	}
	return b
}

func holdFile(t *testing.T, what string, got, places []int, code int, want, wantPlaces []int, wantCode int) {
	t.Helper()
	if !slices.Equal(got, want) || !slices.Equal(places, wantPlaces) || code != wantCode {
		t.Errorf("%s is %v at %v with %d, not %v at %v with %d", what, got, places, code, want, wantPlaces, wantCode)
	}
}

// fileHolds holds all that is asked of a file against the oracle.
func fileHolds(t *testing.T, what string, b []byte) {
	t.Helper()
	want, wantPlaces, wantCode := openAllSlow(b)
	got, places, code := impl.OpenAll(b)
	holdFile(t, "OpenAll of "+what, got, places, code, want, wantPlaces, wantCode)
	want, wantPassed := mendSlowly(b)
	got, passed := impl.Mend(b)
	if !slices.Equal(got, want) || passed != wantPassed {
		t.Errorf("Mend of %s, %v, is %v, %d, not %v, %d", what, b, got, passed, want, wantPassed)
	}
}

func holdSeek(t *testing.T, b []byte, sample, want, wantAhead int) {
	t.Helper()
	if place, ahead := impl.Seek(b, sample); place != want || ahead != wantAhead {
		t.Errorf("Seek of the sample %d is %d, %d, not %d, %d", sample, place, ahead, want, wantAhead)
	}
}

func holdMend(t *testing.T, what string, b []byte, want []int, wantPassed int) {
	t.Helper()
	if got, passed := impl.Mend(b); !slices.Equal(got, want) || passed != wantPassed {
		t.Errorf("Mend of %s is %v, %d, not %v, %d", what, got, passed, want, wantPassed)
	}
}

// frames gives so many blocks and their frames one behind the other.
func (g *formSource) frames(count, most int) ([][]int, [][]byte) {
	lists, frames := [][]int{}, [][]byte{}
	for range count {
		some := g.blocks(int(1 + g.next()%uint64(most)))
		list := some[g.next()%uint64(len(some))]
		lists, frames = append(lists, list), append(frames, packFrameSlow(list))
	}
	return lists, frames
}

func TestPackAllByHand(t *testing.T) {
	b := filePacked(t, []int{1, 2, 3, 4, 5}, 2)
	want := slices.Concat(packed(t, []int{1, 2}), packed(t, []int{3, 4}), packed(t, []int{5}))
	holdBytes(t, "PackAll", b, true, want)
	holdBytes(t, "PackAll in one", filePacked(t, []int{1, 2, 3}, maxFrame), true, packed(t, []int{1, 2, 3}))
	for _, size := range []int{1, 2, maxFrame} {
		b, ok := impl.PackAll(nil, size)
		holdBytes(t, "PackAll of no samples", b, ok, nil)
		b, ok = impl.PackAll([]int{}, size)
		holdBytes(t, "PackAll of no samples", b, ok, nil)
	}
}

func TestPackAllAgainstPieces(t *testing.T) {
	g := formSource(1761)
	for _, n := range []int{0, 1, 2, 3, 7, 8, 9, 127, 128, 129, 255, 256, 257, maxSignal - 1, maxSignal} {
		for _, list := range [][]int{g.curve(2, 3, n), g.signal(1000, n), g.atEnds(maxSample, n)} {
			for _, size := range []int{1, 2, 3, 8, 9, 64, 100, maxFrame - 1, maxFrame} {
				holdBytes(t, "PackAll", filePacked(t, list, size), true, packAllSlow(list, size))
			}
		}
	}
}

// No signal takes more bytes than MaxFile: the most are nine for each sample alone.
func TestPackAllOfTheLongest(t *testing.T) {
	g := formSource(1762)
	most := 0
	for size := 1; size <= maxFrame; size++ {
		most = max(most, len(filePacked(t, g.loud(maxSample, maxSignal), size)))
	}
	holdInt(t, "the longest file", most, 9*maxSignal)
	if most > maxFile {
		t.Error("a file of one signal can be too long")
	}
}

func TestPackAllWrong(t *testing.T) {
	for _, size := range noFrameSizes {
		for _, list := range [][]int{{}, {1}, {1, 2, 3}, make([]int, maxSignal)} {
			b, ok := impl.PackAll(list, size)
			noBytes(t, "PackAll of such a size", b, ok)
		}
	}
	for _, size := range []int{1, 2, 100, maxFrame} {
		for _, list := range noSignals() {
			b, ok := impl.PackAll(list, size)
			noBytes(t, "PackAll of no signal", b, ok)
		}
	}
}

// Signals come back from their frames, in every size in which these are at most MaxFrames; else the first MaxFrames of them come back.
func TestPackSignalsComeBackFromFrames(t *testing.T) {
	g := formSource(1763)
	for _, n := range []int{0, 1, 2, 3, 59, 60, 61, 119, 120, 121, 300, maxSignal} {
		for _, list := range [][]int{make([]int, n), g.curve(3, 1, n), g.signal(100, n), g.loud(maxSample, n), g.atEnds(maxSample, n)} {
			for size := 1; size <= maxFrame; size++ {
				b := filePacked(t, list, size)
				got, places, code := impl.OpenAll(b)
				count := (n + size - 1) / size
				if count > maxFrames {
					holdSignal(t, "the first frames", got, code == impl.FrameForm && len(places) == maxFrames, list[:maxFrames*size])
					continue
				}
				holdSignal(t, "OpenAll of PackAll", got, code == impl.FrameOk && len(places) == count, list)
				holdMend(t, "PackAll", b, list, 0)
			}
		}
	}
}

func TestPackOpenAllPlaces(t *testing.T) {
	g := formSource(1764)
	for range 100 {
		lists, frames := g.frames(int(g.next()%8), 20)
		places, b := []int{}, []byte{}
		for _, frame := range frames {
			places, b = append(places, len(b)), append(b, frame...)
		}
		got, gotPlaces, code := impl.OpenAll(b)
		holdFile(t, "OpenAll", got, gotPlaces, code, slices.Concat(lists...), places, impl.FrameOk)
		holdMend(t, "whole frames", b, slices.Concat(lists...), 0)
	}
	for _, none := range [][]byte{nil, {}} {
		got, places, code := impl.OpenAll(none)
		holdFile(t, "OpenAll of no bytes", got, places, code, []int{}, []int{}, impl.FrameOk)
		holdMend(t, "no bytes", none, []int{}, 0)
		holdSeek(t, none, 0, -1, 0)
	}
}

// What ends the frames is told by its code, behind whole frames as at the beginning.
func TestPackOpenAllTellsWhatEndsIt(t *testing.T) {
	g := formSource(1765)
	cut := packed(t, g.signal(1000, 9))
	turned := slices.Clone(cut)
	turned[len(turned)-1] ^= 4
	ends := map[int][][]byte{
		impl.FrameShort: {{70}, {0}, {70, 0}, {1, 2}, cut[:2], cut[:len(cut)-1], cut[:len(cut)-2]},
		impl.FrameHead:  {{0, 0, 0}, {71, 0, 0}, {70, 128, 0}, {70, 0, 31}, {70, 0, 128}, append([]byte{1}, cut...)},
		impl.FrameBits:  {{70, 0, 0}, cut[:3], cut[:4], cut[:len(cut)-3]},
		impl.FrameCheck: {turned, append(slices.Clone(turned), cut...), {70, 0, 0, 0, 0, 0}},
		impl.FrameForm:  {frameOf([]int{1, 2, 3}, 0, 9), frameOf([]int{0}, 1, 0), append(frameOf([]int{0}, 1, 0), cut...)},
	}
	for count := range 4 {
		lists, frames := g.frames(count, 10)
		b := slices.Concat(frames...)
		_, places, _ := impl.OpenAll(b)
		for want, tails := range ends {
			for _, tail := range tails {
				all := slices.Concat(b, tail)
				got, gotPlaces, code := impl.OpenAll(all)
				holdFile(t, "OpenAll with something behind", got, gotPlaces, code, slices.Concat(lists...), places, want)
				fileHolds(t, "frames with something behind", all)
			}
		}
	}
}

// Cut anywhere, all frames ahead of the cut are read.
func TestPackCutFilesAreReadUpToTheLastWholeFrame(t *testing.T) {
	g := formSource(1766)
	for _, most := range []int{1, 3, 30} {
		for range 10 {
			lists, frames := g.frames(6, most)
			b := slices.Concat(frames...)
			whole, end := 0, 0
			for cut := range len(b) + 1 {
				for whole < len(frames) && end+len(frames[whole]) <= cut {
					end += len(frames[whole])
					whole++
				}
				got, places, code := impl.OpenAll(b[:cut])
				if !slices.Equal(got, slices.Concat(lists[:whole]...)) || len(places) != whole || (code == impl.FrameOk) != (end == cut) {
					t.Errorf("cut at %d, OpenAll tells %v at %v with %d, not %d frames", cut, got, places, code, whole)
				}
				if code != impl.FrameOk && code != impl.FrameShort && code != impl.FrameBits {
					t.Errorf("cut at %d, OpenAll ends with %d", cut, code)
				}
			}
		}
	}
	list := g.curve(2, 9, 300)
	b := filePacked(t, list, 50)
	_, places, _ := impl.OpenAll(b)
	places = append(places, len(b))
	for cut := range len(b) + 1 {
		whole := 0
		for whole < 6 && places[whole+1] <= cut {
			whole++
		}
		got, _, _ := impl.OpenAll(b[:cut])
		holdSignal(t, "a file cut off", got, true, list[:50*whole])
	}
}

// MaxFrames frames are taken to the end; behind them anything at all ends with FrameForm.
func TestPackOpenAllOfManyFrames(t *testing.T) {
	g := formSource(1767)
	lists, frames := g.frames(maxFrames+2, 3)
	places, all := []int{}, []byte{}
	for _, frame := range frames {
		places, all = append(places, len(all)), append(all, frame...)
	}
	for count := maxFrames - 1; count <= maxFrames+2; count++ {
		b := slices.Concat(frames[:count]...)
		got, gotPlaces, code := impl.OpenAll(b)
		told, want := count, impl.FrameOk
		if count > maxFrames {
			told, want = maxFrames, impl.FrameForm
		}
		holdFile(t, "OpenAll of many frames", got, gotPlaces, code, slices.Concat(lists[:told]...), places[:told], want)
		holdMend(t, "many frames", b, slices.Concat(lists[:told]...), len(slices.Concat(frames[told:count]...)))
	}
	full := slices.Concat(frames[:maxFrames]...)
	turned := slices.Clone(frames[0])
	turned[len(turned)-1] ^= 1
	for _, tail := range [][]byte{{0}, {70}, {1, 2, 3}, {70, 0, 0}, turned, frameOf([]int{0}, 1, 0), frames[maxFrames], append([]byte{9}, frames[maxFrames]...)} {
		b := slices.Concat(full, tail)
		got, gotPlaces, code := impl.OpenAll(b)
		holdFile(t, "OpenAll behind MaxFrames frames", got, gotPlaces, code, slices.Concat(lists[:maxFrames]...), places[:maxFrames], impl.FrameForm)
		holdMend(t, "MaxFrames frames and more", b, slices.Concat(lists[:maxFrames]...), len(tail))
		samples := len(slices.Concat(lists[:maxFrames]...))
		holdSeek(t, b, samples-1, places[maxFrames-1], len(slices.Concat(lists[:maxFrames-1]...)))
		holdSeek(t, b, samples, -1, 0)
	}
	// One frame less, and what ends them is told as it is.
	b := slices.Concat(slices.Concat(frames[:maxFrames-1]...), []byte{1, 2, 3})
	_, gotPlaces, code := impl.OpenAll(b)
	holdInt(t, "how many frames", len(gotPlaces), maxFrames-1)
	holdInt(t, "the code", code, impl.FrameHead)
}

// fullFile is a file of just MaxFile bytes, whole frames all of them.
func fullFile(t *testing.T, g *formSource) ([]int, []byte) {
	t.Helper()
	list, b := []int{}, []byte{}
	for len(b) < maxFile {
		room := maxFile - len(b)
		for n := maxFrame; n > 0; n-- {
			block := g.loud(maxSample, n)
			frame := packed(t, block)
			if rest := room - len(frame); rest == 0 || rest >= 20 {
				list, b = append(list, block...), append(b, frame...)
				break
			}
			// The last bytes are those of small samples, a byte for eight of them.
			block = make([]int, min(8*(room-5), maxFrame))
			if frame = packed(t, block); room < 20 && len(frame) == room {
				list, b = append(list, block...), append(b, frame...)
				break
			}
		}
	}
	return list, b
}

func TestPackFilesAtTheirLimit(t *testing.T) {
	g := formSource(1768)
	list, b := fullFile(t, &g)
	holdInt(t, "how many bytes", len(b), maxFile)
	got, places, code := impl.OpenAll(b)
	holdSignal(t, "OpenAll of MaxFile bytes", got, code == impl.FrameOk && len(places) <= maxFrames, list)
	holdMend(t, "MaxFile bytes", b, list, 0)
	holdSeek(t, b, 0, 0, 0)
	holdSeek(t, b, len(list)-1, places[len(places)-1], len(list)-int(b[places[len(places)-1]+1])-1)
	holdSeek(t, b, len(list), -1, 0)
	for _, more := range [][]byte{{0}, {70}, packed(t, []int{1}), make([]byte, 20000)} {
		longer := append(slices.Clone(b), more...)
		got, places, code := impl.OpenAll(longer)
		holdFile(t, "OpenAll of more than MaxFile bytes", got, places, code, []int{}, []int{}, impl.FrameShort)
		holdMend(t, "more than MaxFile bytes", longer, []int{}, 0)
		holdSeek(t, longer, 0, -1, 0)
	}
	for _, x := range []byte{0, 70, 255} {
		rubbish := slices.Repeat([]byte{x}, maxFile)
		holdMend(t, "MaxFile bytes of one kind", rubbish, []int{}, maxFile)
		holdMend(t, "one byte more", append(rubbish, x), []int{}, 0)
	}
	one := slices.Concat(make([]byte, maxFile-6), packed(t, []int{0}))
	holdMend(t, "a frame at the very end", one, []int{0}, maxFile-6)
	holdMend(t, "a frame behind the very end", append([]byte{0}, one...), []int{}, 0)
}

// Each place of a long file looks like a frame's beginning: it is gone through in good time.
func TestPackMendOfManyHeads(t *testing.T) {
	for _, head := range [][]byte{{70}, {70, 127, 0}, {70, 70, 70, 127, 30}, {70, 127, 5, 255, 255}} {
		b := slices.Repeat(head, maxFile/len(head))
		if got, passed := impl.Mend(b); len(got) != 0 || passed != len(b) {
			t.Errorf("Mend of many heads is %v, %d", got, passed)
		}
		b = append(slices.Repeat(head, 200), slices.Repeat([]byte{255}, maxFile-200*len(head))...)
		if got, passed := impl.Mend(b); len(got) != 0 || passed != len(b) {
			t.Errorf("Mend of many heads ahead of ones is %v, %d", got, passed)
		}
	}
}

func TestPackSeekEachSample(t *testing.T) {
	g := formSource(1769)
	for range 10 {
		lists, frames := g.frames(int(g.next()%7), 12)
		b := slices.Concat(append(frames, g.bytes(int(g.next()%4)))...)
		sample, place := 0, 0
		for at, list := range lists {
			first := sample
			for range list {
				holdSeek(t, b, sample, place, first)
				sample++
			}
			place += len(frames[at])
		}
		for _, none := range []int{-1, -2, sample, sample + 1, sample + 100, 1 << 32, -1 << 32, math.MaxInt, math.MinInt} {
			holdSeek(t, b, none, -1, 0)
		}
		for sample := -3; sample < 90; sample++ {
			want, wantAhead := seekSlow(b, sample)
			holdSeek(t, b, sample, want, wantAhead)
		}
	}
	for _, size := range []int{1, 7, 100, maxFrame} {
		list := g.signal(1000, min(60*size, maxSignal))
		b := filePacked(t, list, size)
		for sample, x := range list {
			place, ahead := impl.Seek(b, sample)
			block, _, code := impl.OpenFrame(b, place)
			if code != impl.FrameOk || ahead != sample/size*size || block[sample-ahead] != x {
				t.Errorf("Seek of %d is %d, %d, where the frame is %v", sample, place, ahead, block)
			}
		}
		holdSeek(t, b, -1, -1, 0)
		holdSeek(t, b, len(list), -1, 0)
	}
}

// Samples behind a hurt frame are not found, though Mend saves them.
func TestPackSeekBehindAHurtFrame(t *testing.T) {
	first, second, third := packed(t, []int{1, 2, 3}), packed(t, []int{4, 5}), packed(t, []int{6})
	hurt := slices.Clone(second)
	hurt[len(hurt)-1] ^= 1
	b := slices.Concat(first, hurt, third)
	holdSeek(t, b, 2, 0, 0)
	holdSeek(t, b, 3, -1, 0)
	holdMend(t, "a hurt frame between", b, []int{1, 2, 3, 6}, len(second))
	holdSeek(t, append([]byte{0}, first...), 0, -1, 0)
}

func TestPackMendByHand(t *testing.T) {
	a, b, c := packed(t, []int{1, 2}), packed(t, []int{-7, 9, 500}), packed(t, []int{0})
	rubbish := []byte{0, 70, 71, 70, 1}
	for ahead := range 6 {
		for between := range 6 {
			for behind := range 6 {
				all := slices.Concat(rubbish[:ahead], a, rubbish[:between], b, c, rubbish[:behind])
				holdMend(t, "bytes ahead, between and behind", all, []int{1, 2, -7, 9, 500, 0}, ahead+between+behind)
				fileHolds(t, "bytes ahead, between and behind", all)
			}
		}
	}
	for at := range b {
		hurt := slices.Clone(b)
		hurt[at] ^= 16
		holdMend(t, "a hurt frame", slices.Concat(a, hurt, c), []int{1, 2, 0}, len(b))
		without := slices.Concat(a, b[:at], b[at+1:], c)
		holdMend(t, "a byte that is gone", without, []int{1, 2, 0}, len(b)-1)
		more := slices.Concat(a, b[:at], []byte{165}, b[at:], c)
		fileHolds(t, "a byte too much", more)
	}
	holdMend(t, "a frame of another shape", slices.Concat(a, frameOf([]int{5}, 1, 9), c), []int{1, 2, 0}, len(frameOf([]int{5}, 1, 9)))
}

// innerFrame is a frame with bytes below 128 alone, so that an outer one can have it within: with k of 7 each of those bytes is a number.
func innerFrame(t *testing.T) ([]int, []byte) {
	t.Helper()
	g := formSource(1772)
	for range 10000 {
		list := g.signal(9, 3)
		if b := packed(t, list); slices.Max(b) < 128 {
			return list, b
		}
	}
	t.Fatal("no frame has bytes below 128 alone")
	return nil, nil
}

// outerFrame has those bytes within its own; what stands ahead and behind makes order 0 and k of 7 the best.
func outerFrame(t *testing.T, within []byte) ([]int, []byte) {
	t.Helper()
	list := slices.Repeat([]int{63, -64}, 20)
	for _, x := range within {
		list = append(list, int(atTurn(bigOf(int(x))).Int64()))
	}
	list = append(list, slices.Repeat([]int{-120, 110}, 20)...)
	b := packed(t, list)
	if b[2] != 7 || !slices.Equal(b[43:43+len(within)], within) {
		t.Fatalf("the frame %v has not %v within", b, within)
	}
	return list, b
}

// A frame within another one's bytes is told only where the other one is hurt.
func TestPackMendOfAFrameWithinAnother(t *testing.T) {
	few, inner := innerFrame(t)
	many, outer := outerFrame(t, inner)
	got, next, code := impl.OpenFrame(outer, 43)
	holdFrame(t, "the inner frame", got, next, code, few, 43+len(inner), impl.FrameOk)
	got, next, code = impl.OpenFrame(outer, 0)
	holdFrame(t, "the outer frame", got, next, code, many, len(outer), impl.FrameOk)
	holdMend(t, "a frame within another", outer, many, 0)
	holdMend(t, "a frame within another, and one behind", slices.Concat(outer, inner), append(slices.Clone(many), few...), 0)
	for at := range outer {
		hurt := slices.Clone(outer)
		hurt[at] ^= 2
		if at >= 43 && at < 43+len(inner) {
			holdMend(t, "both hurt", hurt, []int{}, len(outer))
		} else {
			holdMend(t, "a frame within a hurt one", hurt, few, len(outer)-len(inner))
		}
		fileHolds(t, "a frame within a hurt one", hurt)
	}
	holdMend(t, "a frame within one that is cut off", outer[:len(outer)-1], few, len(outer)-1-len(inner))
}

func TestPackFilesAgainstTheOracle(t *testing.T) {
	g := formSource(1770)
	for range 400 {
		_, frames := g.frames(int(g.next()%6), 9)
		b := slices.Concat(frames...)
		fileHolds(t, "frames", b)
		if len(b) == 0 {
			continue
		}
		fileHolds(t, "frames with a hurt byte", g.hurt(b, g.places(len(b), 1)))
		fileHolds(t, "frames with some hurt bytes", g.hurt(b, g.places(len(b), min(len(b), 4))))
		from := int(g.next() % uint64(len(b)))
		fileHolds(t, "frames cut off", b[:from])
		fileHolds(t, "frames without their beginning", b[from:])
		fileHolds(t, "frames with bytes between", slices.Concat(b[:from], g.bytes(3), b[from:]))
		fileHolds(t, "frames, some twice", slices.Concat(b[:from], b))
	}
	for range 400 {
		fileHolds(t, "bytes by chance", g.bytes(int(g.next()%60)))
	}
}

// Of a file with one hurt byte Mend tells all other frames, and nothing else.
func TestPackMendSavesAllOthers(t *testing.T) {
	g := formSource(1771)
	for range 10 {
		lists, frames := g.frames(4, 10)
		b := slices.Concat(frames...)
		place := 0
		for at, frame := range frames {
			others := slices.Concat(slices.Concat(lists[:at]...), slices.Concat(lists[at+1:]...))
			for hurt := range frame {
				for turn := 1; turn < 256; turn += 7 {
					turned := slices.Clone(b)
					turned[place+hurt] ^= byte(turn)
					holdMend(t, "a file with one hurt byte", turned, others, len(frame))
					got, _, code := impl.OpenAll(turned)
					holdSignal(t, "the frames ahead of a hurt one", got, code != impl.FrameOk, slices.Concat(lists[:at]...))
				}
			}
			place += len(frame)
		}
	}
}
