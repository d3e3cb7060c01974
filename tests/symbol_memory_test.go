package tests

import (
	"math"
	"slices"
	"testing"

	"loop.example/g00043/impl"
)

// A bitCall is a function from a list to a list, with its other arguments set.
type bitCall struct {
	name string
	call func(list []int) ([]int, bool)
}

var bitCalls = []bitCall{
	{"Differ", impl.Differ}, {"UnDiffer", impl.UnDiffer},
	{"Stir", func(list []int) ([]int, bool) { return impl.Stir(list, 0xB400, 0xACE1) }},
	{"Stir with one tap", func(list []int) ([]int, bool) { return impl.Stir(list, 1, 0x8000) }},
	{"Follow", func(list []int) ([]int, bool) { return impl.Follow(list, 0x8005) }},
	{"Follow without taps", func(list []int) ([]int, bool) { return impl.Follow(list, 0) }},
	{"UnFollow", func(list []int) ([]int, bool) { return impl.UnFollow(list, 0x8005) }},
	{"UnFollow without taps", func(list []int) ([]int, bool) { return impl.UnFollow(list, 0) }},
	{"Weave", func(list []int) ([]int, bool) { return impl.Weave(list, 7) }},
	{"Weave in one row", func(list []int) ([]int, bool) { return impl.Weave(list, 1) }},
	{"Weave in 64 rows", func(list []int) ([]int, bool) { return impl.Weave(list, 64) }},
	{"Unweave", func(list []int) ([]int, bool) { return impl.Unweave(list, 7) }},
	{"Unweave of one row", func(list []int) ([]int, bool) { return impl.Unweave(list, 1) }},
	{"Unweave of 64 rows", func(list []int) ([]int, bool) { return impl.Unweave(list, 64) }},
}

func TestSymbolListsAreNewMemory(t *testing.T) {
	for _, c := range bitCalls {
		manyBitLists(1351, func(bits []int) { newMemory(t, c.name, bits, c.call) })
	}
}

// untouchedPoints calls with a piece of a longer list, and tells whether list or rest have changed.
func untouchedPoints(t *testing.T, what string, points []impl.Point, call func(points []impl.Point)) {
	t.Helper()
	room := append(slices.Clone(points), impl.Point{X: math.MinInt, Y: 7}, impl.Point{X: 1, Y: math.MaxInt})
	ahead := slices.Clone(room)
	call(room[:len(points)])
	if !slices.Equal(room, ahead) {
		t.Errorf("%s has written into its argument: %v", what, room)
	}
}

func untouchedBytes(t *testing.T, what string, b []byte, call func(b []byte)) {
	t.Helper()
	room := append(slices.Clone(b), 0xA5, 0xFF)
	ahead := slices.Clone(room)
	call(room[:len(b)])
	if !slices.Equal(room, ahead) {
		t.Errorf("%s has written into its argument: %v", what, room)
	}
}

// fillWith writes over a whole answer, up to the end of its room.
func fillWith[T any](list []T, x T) {
	full := list[:cap(list)]
	for at := range full {
		full[at] = x
	}
}

func TestSymbolPointsAreNewMemory(t *testing.T) {
	for _, width := range pointWidths {
		manyBitLists(1352, func(bits []int) {
			untouchedInts(t, "Map", bits, func(piece []int) {
				first, ok := impl.Map(width, piece)
				want := slices.Clone(first)
				fillWith(first, impl.Point{X: -9, Y: -9})
				again, okAgain := impl.Map(width, piece)
				holdPoints(t, "Map, again,", again, ok && okAgain, want)
			})
			untouchedPoints(t, "Decide", mapSlow(width, bits[:len(bits)/width*width]), func(points []impl.Point) {
				newEachTime(t, "Decide", func() ([]int, bool) { return impl.Decide(width, points) })
			})
		})
	}
}

func TestSymbolBytesAreNewMemory(t *testing.T) {
	manyBitLists(1353, func(bits []int) {
		untouchedInts(t, "Pack8", bits, func(piece []int) {
			first, ok := impl.Pack8(piece)
			want := slices.Clone(first)
			fillWith(first, 0xA5)
			again, okAgain := impl.Pack8(piece)
			holdBytes(t, "Pack8, again,", again, ok && okAgain, want)
		})
		untouchedBytes(t, "Unpack8", pack8Slow(bits), func(b []byte) {
			newEachTime(t, "Unpack8", func() ([]int, bool) { return impl.Unpack8(b, len(bits)) })
		})
	})
}

// What is refused is not written into either, nor handed out.
func TestSymbolRefusedArgumentsStay(t *testing.T) {
	for _, list := range append(noBitLists(), []int{1, 0, 1}, []int{}) {
		untouchedInts(t, "what is refused", list, func(piece []int) {
			impl.BitsOk(piece)
			for _, c := range bitCalls {
				overwriteNothing(t, piece, listOf(c.call(piece)))
			}
			overwrite(t, [][]int{
				listOf(impl.Stir(piece, 0, 1)), listOf(impl.Stir(piece, 1, 0)), listOf(impl.Follow(piece, -1)), listOf(impl.UnFollow(piece, 65536)), listOf(impl.Weave(piece, 0)), listOf(impl.Unweave(piece, 65)),
			})
			points, _ := impl.Map(3, piece)
			fillWith(points, impl.Point{X: -9})
			points, _ = impl.Map(4, piece)
			fillWith(points, impl.Point{X: -9})
			b, _ := impl.Pack8(piece)
			fillWith(b, 9)
		})
	}
	untouchedPoints(t, "Decide", []impl.Point{{X: maxSample + 1}, {}}, func(points []impl.Point) {
		overwrite(t, [][]int{listOf(impl.Decide(4, points)), listOf(impl.Decide(3, points))})
	})
	untouchedBytes(t, "Unpack8", []byte{1, 2, 3}, func(b []byte) {
		overwrite(t, [][]int{listOf(impl.Unpack8(b, 23)), listOf(impl.Unpack8(b, 25)), listOf(impl.Unpack8(b, -1))})
	})
}

// Behind the length of a list nothing is read: points and bytes are filled with noughts, whatever stands there.
func TestSymbolReadsNoSpareRoom(t *testing.T) {
	g := formSource(1354)
	for _, behind := range []int{1, 2, -1, math.MaxInt, math.MinInt} {
		for n := range 40 {
			bits := append(g.flips(n), slices.Repeat([]int{behind}, 70)...)[:n]
			for _, width := range pointWidths {
				mapHolds(t, width, bits)
			}
			differHolds(t, bits)
			stirHolds(t, bits, 6, 5)
			followHolds(t, bits, maxTurn)
			weaveHolds(t, bits, 3)
			weaveHolds(t, bits, 64)
			pack8Holds(t, bits)
			if !impl.BitsOk(bits) {
				t.Errorf("%v are no bits", bits)
			}
		}
	}
	noUnpack8(t, "a byte that stands behind the last", []byte{0xFF, 0x80}[:1], 9)
	unpack8Holds(t, []byte{0xFF, 0x80, 0xFF}[:2], 9)
	decideHolds(t, 4, []impl.Point{{X: 3, Y: -3}, {X: maxSample + 1}}[:1])
}

// Nothing is kept: what is asked in between changes no answer.
func TestSymbolKeepsNothing(t *testing.T) {
	g := formSource(1355)
	bits := g.flips(120)
	want := [][]int{}
	for _, c := range bitCalls {
		want = append(want, listOf(c.call(bits)))
	}
	points := mapSlow(6, bits)
	for range 3 {
		for at, c := range bitCalls {
			c.call(g.flips(50))
			c.call([]int{2})
			got, ok := c.call(bits)
			holdSignal(t, c.name+", again,", got, ok, want[at])
		}
		impl.Map(8, g.flips(33))
		got, ok := impl.Map(6, bits)
		holdPoints(t, "Map, again,", got, ok, points)
		impl.Decide(8, points)
		back, ok := impl.Decide(6, points)
		holdSignal(t, "Decide, again,", back, ok, bits)
		impl.Unpack8([]byte{255}, 7)
		pack8Holds(t, bits)
		grayHolds(t, 77)
	}
}
