package tests

import (
	"slices"
	"testing"

	"loop.example/g00043/impl"
)

func numbersOf(list []int, _ int, ok bool) ([]int, bool) { return list, ok }

func samplesOf(list []int, _, code int) ([]int, bool) { return list, code == impl.FrameOk }

func TestPackListsAreNewMemory(t *testing.T) {
	for _, order := range orders {
		manySignals(1781, 1000, func(list []int) {
			newMemory(t, "Guess", list, func(list []int) ([]int, bool) { return impl.Guess(order, list) })
			left, _ := impl.Guess(order, list)
			newMemory(t, "UnGuess", left, func(left []int) ([]int, bool) { return impl.UnGuess(order, left) })
		})
	}
	for _, k := range []int{0, 1, 5, 30} {
		g := formSource(1782)
		for _, n := range append([]int{0}, blockLengths...) {
			list := g.signal(300, n)
			newMemory(t, "Rice", list, func(list []int) ([]int, bool) { return impl.Rice(k, list) })
			bits, _ := impl.Rice(k, list)
			for _, count := range []int{0, n / 2, n} {
				newMemory(t, "UnRice", append(bits, 0, 1), func(bits []int) ([]int, bool) { return numbersOf(impl.UnRice(k, bits, count)) })
			}
		}
	}
}

// newFrame writes over a frame that was told, and wants it as it was once more.
func newFrame(t *testing.T, what string, list []int, call func(list []int) ([]byte, bool)) {
	t.Helper()
	untouchedInts(t, what, list, func(list []int) {
		first, ok := call(list)
		want := slices.Clone(first)
		fillWith(first, 0x5A)
		again, okAgain := call(list)
		holdBytes(t, what+", again,", again, ok && okAgain, want)
	})
}

func TestPackFramesAreNewMemory(t *testing.T) {
	manyBlocks(1783, func(list []int) {
		newFrame(t, "PackFrame", list, impl.PackFrame)
		for _, size := range []int{1, 10, maxFrame} {
			newFrame(t, "PackAll", list, func(list []int) ([]byte, bool) { return impl.PackAll(list, size) })
		}
		untouchedInts(t, "BestRice", list, func(list []int) { impl.BestRice(list) })
		untouchedBytes(t, "OpenFrame", packed(t, list), func(b []byte) {
			newEachTime(t, "OpenFrame", func() ([]int, bool) { return samplesOf(impl.OpenFrame(b, 0)) })
		})
	})
}

func TestPackFilesAreNewMemory(t *testing.T) {
	g := formSource(1784)
	for _, tail := range [][]byte{{}, {70}, {1, 2, 3, 4}, packed(t, []int{1, 2, 3})[:5]} {
		_, frames := g.frames(5, 30)
		untouchedBytes(t, "a file", slices.Concat(append(frames, tail)...), func(b []byte) {
			bothNew(t, "OpenAll", func() ([]int, []int, bool) {
				list, places, _ := impl.OpenAll(b)
				return list, places, true
			})
			newEachTime(t, "Mend", func() ([]int, bool) {
				list, _ := impl.Mend(b)
				return list, true
			})
			for sample := -1; sample < 160; sample++ {
				impl.Seek(b, sample)
			}
		})
	}
}

// The samples and the places of one answer share no memory, nor do two answers.
func TestPackAnswersAreApart(t *testing.T) {
	b := filePacked(t, counted(20), 3)
	list, places, _ := impl.OpenAll(b)
	other, otherPlaces, _ := impl.OpenAll(b)
	wantPlaces := slices.Clone(places)
	fillWith(list, -9)
	holdSignal(t, "the places", places, true, wantPlaces)
	fillWith(places, -9)
	holdSignal(t, "another answer's samples", other, true, counted(20))
	holdSignal(t, "another answer's places", otherPlaces, true, wantPlaces)
}

// What lies behind a list's length is not read: a file with the rest of a frame behind it is cut off.
func TestPackReadsNoSpareRoom(t *testing.T) {
	g := formSource(1785)
	list := g.signal(1000, 40)
	frame := packed(t, list)
	for end := range frame {
		if got, next, code := impl.OpenFrame(frame[:end], 0); code == impl.FrameOk || next != 0 || len(got) != 0 {
			t.Errorf("OpenFrame reads behind the %d bytes that it was given", end)
		}
		if got, places, code := impl.OpenAll(frame[:end]); len(got) != 0 || len(places) != 0 || (code == impl.FrameOk) != (end == 0) {
			t.Errorf("OpenAll reads behind the %d bytes that it was given", end)
		}
		holdMend(t, "a frame cut off", frame[:end], []int{}, end)
		holdSeek(t, frame[:end], 0, -1, 0)
	}
	bits, _ := impl.Rice(3, list)
	for end := range bits {
		noUnRice(t, "bits cut off", 3, bits[:end], len(list))
	}
	room := append(slices.Clone(list), maxSample+1, maxSample+1)
	for _, order := range orders {
		guessHolds(t, order, room[:40])
	}
	frameHolds(t, room[:40])
	riceHolds(t, 9, room[:40])
	bestHolds(t, room[:40])
	back, used, ok := impl.UnRice(0, []int{0, 0, 2, 3}[:2], 2)
	holdUnRice(t, "UnRice with no bits behind", back, used, ok, []int{0, 0}, 2)
	long := make([]byte, maxFile+5)
	holdMend(t, "MaxFile bytes with more behind", long[:maxFile], []int{}, maxFile)
}

// What an answer has room for behind its end is not what an argument has there.
func TestPackSpareRoomStays(t *testing.T) {
	g := formSource(1786)
	list := g.signal(100, 60)
	for n := range 50 {
		ahead := slices.Clone(list)
		for _, order := range orders {
			overwriteNothing(t, list, listOf(impl.Guess(order, list[:n])))
			overwriteNothing(t, list, listOf(impl.UnGuess(order, list[:min(n, 9)])))
		}
		overwriteNothing(t, list, listOf(impl.Rice(4, list[:n])))
		holdSignal(t, "the list", list, true, ahead)
	}
}

func TestPackRefusedArgumentsStay(t *testing.T) {
	for _, list := range append(noSignals(), []int{}, []int{1, 2, 3}) {
		for _, k := range []int{-1, 0, 4, 31} {
			untouchedInts(t, "what may be refused", list, func(list []int) {
				for _, told := range [][]int{listOf(impl.Guess(k, list)), listOf(impl.UnGuess(k, list)), listOf(impl.Rice(k, list)), listOf(numbersOf(impl.UnRice(k, list, 2)))} {
					fillWith(told, -9)
				}
				impl.BestRice(list)
				fillWith(bytesOf(impl.PackFrame(list)), 0x5A)
				fillWith(bytesOf(impl.PackAll(list, k)), 0x5A)
			})
		}
	}
	g := formSource(1787)
	for _, n := range []int{0, 1, 2, 3, 10, 100, maxFile, maxFile + 1} {
		untouchedBytes(t, "what may be refused", append([]byte{70, 3, 66}, g.bytes(n)...), func(b []byte) {
			for at := -1; at < 5; at++ {
				fillWith(listOf(samplesOf(impl.OpenFrame(b, at))), -9)
			}
			list, places, _ := impl.OpenAll(b)
			fillWith(list, -9)
			fillWith(places, -9)
			list, _ = impl.Mend(b)
			fillWith(list, -9)
			impl.Seek(b, 0)
		})
	}
}

// Nothing is kept: what is asked in between, of other lists and of wrong ones, changes no answer.
func TestPackKeepsNothing(t *testing.T) {
	g := formSource(1788)
	list := g.curve(2, 5, 90)
	b := filePacked(t, list, 25)
	want := packAllSlow(list, 25)
	for range 30 {
		other := g.signal(1000, int(1+g.next()%100))
		hurt := g.hurt(b, g.places(len(b), 3))
		impl.PackFrame(other)
		impl.PackFrame(nil)
		impl.OpenFrame(hurt, int(g.next()%uint64(len(b))))
		impl.OpenFrame(b, -1)
		impl.OpenAll(hurt)
		impl.Mend(hurt)
		impl.Seek(hurt, 40)
		impl.UnRice(3, []int{1, 1, 1}, 1)
		impl.Rice(2, other)
		holdBytes(t, "PackAll, again,", filePacked(t, list, 25), true, want)
		got, places, code := impl.OpenAll(b)
		holdSignal(t, "OpenAll, again,", got, code == impl.FrameOk && len(places) == 4, list)
		holdMend(t, "a file, again,", b, list, 0)
		holdSeek(t, b, 60, places[2], 50)
	}
}

// Frames are read by several at once, each of which has faults of its own to catch.
func TestPackManyReadAtOnce(t *testing.T) {
	g := formSource(1789)
	list := g.curve(1, 9, 200)
	b := filePacked(t, list, 20)
	hurt := g.hurt(b, []int{len(b) / 2})
	want, wantPassed := mendSlowly(hurt)
	done := make(chan bool)
	for range 8 {
		go func() {
			ok := true
			for range 20 {
				saved, passed := impl.Mend(hurt)
				all, _, code := impl.OpenAll(b)
				ok = ok && slices.Equal(saved, want) && passed == wantPassed && slices.Equal(all, list) && code == impl.FrameOk
			}
			done <- ok
		}()
	}
	for range 8 {
		if !<-done {
			t.Error("frames that are read at once come out otherwise")
		}
	}
}
