package tests

import (
	"math"
	"math/bits"
	"slices"
	"testing"

	"loop.example/g00043/impl"
)

func TestSymbolMapByHand(t *testing.T) {
	for _, c := range []struct {
		width int
		bits  []int
		want  []impl.Point
	}{
		{4, []int{1, 0, 0, 1, 1}, []impl.Point{{X: 3, Y: -1}, {X: 3, Y: -3}}},
		{2, nil, nil}, {4, []int{}, nil}, {6, nil, nil}, {8, nil, nil},
		{2, []int{0, 0, 0, 1, 1, 0, 1, 1}, []impl.Point{{X: -1, Y: -1}, {X: -1, Y: 1}, {X: 1, Y: -1}, {X: 1, Y: 1}}},
		{2, []int{0}, []impl.Point{{X: -1, Y: -1}}}, {2, []int{1}, []impl.Point{{X: 1, Y: -1}}}, {2, []int{0, 1, 1}, []impl.Point{{X: -1, Y: 1}, {X: 1, Y: -1}}},
		{4, []int{0}, []impl.Point{{X: -3, Y: -3}}}, {4, []int{1}, []impl.Point{{X: 3, Y: -3}}}, {4, []int{0, 1}, []impl.Point{{X: -1, Y: -3}}}, {4, []int{1, 1, 1}, []impl.Point{{X: 1, Y: 3}}}, {4, []int{1, 1, 0, 1}, []impl.Point{{X: 1, Y: -1}}},
		{6, []int{1, 0, 0, 0, 0, 1}, []impl.Point{{X: 7, Y: -5}}}, {6, []int{1, 1, 0, 0, 1, 1}, []impl.Point{{X: 1, Y: -3}}}, {6, []int{1}, []impl.Point{{X: 7, Y: -7}}}, {6, []int{0, 1, 1, 1, 0}, []impl.Point{{X: -3, Y: 7}}}, {6, []int{0, 1, 0, 1, 1, 1}, []impl.Point{{X: -1, Y: 3}}},
		{8, []int{1, 0, 0, 0, 0, 1, 0, 0}, []impl.Point{{X: 15, Y: -1}}}, {8, []int{1, 1, 0, 0, 1, 1, 1, 1}, []impl.Point{{X: 1, Y: 5}}}, {8, []int{1}, []impl.Point{{X: 15, Y: -15}}}, {8, []int{0, 0, 0, 1, 0, 0, 1}, []impl.Point{{X: -13, Y: -9}}}, {8, []int{0, 0, 0, 0, 0, 0, 0, 0, 1, 0, 0, 1}, []impl.Point{{X: -15, Y: -15}, {X: 13, Y: -15}}},
	} {
		got, ok := impl.Map(c.width, c.bits)
		holdPoints(t, "Map by hand", got, ok, c.want)
		holdPoints(t, "the oracle by hand", mapSlow(c.width, c.bits), true, c.want)
	}
}

// mapHolds asks for the points, and for the bits back from them, filled with noughts.
func mapHolds(t *testing.T, width int, list []int) {
	t.Helper()
	points, ok := impl.Map(width, list)
	holdPoints(t, "Map", points, ok, mapSlow(width, list))
	filled := slices.Clone(list)
	for len(filled)%width != 0 {
		filled = append(filled, 0)
	}
	if len(filled) > maxBits {
		noDecision(t, "the points of more than MaxBits bits", width, points)
		return
	}
	back, ok := impl.Decide(width, points)
	holdSignal(t, "Decide of Map", back, ok, filled)
}

func TestSymbolMapOfManyBits(t *testing.T) {
	for _, width := range pointWidths {
		shortBits(10, func(list []int) { mapHolds(t, width, list) })
		manyBitLists(1311, func(list []int) { mapHolds(t, width, list) })
		for n := range 4 * width {
			mapHolds(t, width, slices.Repeat([]int{1}, n))
		}
		mapHolds(t, width, bitsOfText(allBitTexts(width)[:maxBits/width*width]))
	}
}

func allBitTexts(width int) string {
	text := ""
	for len(text) < maxBits {
		for _, one := range allTexts(width) {
			text += one
		}
	}
	return text
}

// Each half of a point's bits tells a level of its own; neighbours among the levels differ in one bit.
func TestSymbolMapNeighboursDifferInOneBit(t *testing.T) {
	for _, width := range pointWidths {
		at := map[impl.Point]int{}
		for n, text := range allTexts(width) {
			points, ok := impl.Map(width, bitsOfText(text))
			if !ok || len(points) != 1 {
				t.Fatalf("Map of %s is %v %v", text, points, ok)
			}
			at[points[0]] = n
		}
		holdInt(t, "how many points there are", len(at), 1<<width, width)
		top := 1<<(width/2) - 1
		for p, n := range at {
			if max(p.X, -p.X) > top || max(p.Y, -p.Y) > top || p.X&1 == 0 || p.Y&1 == 0 {
				t.Errorf("%v is no point of the width %d", p, width)
			}
			for _, q := range []impl.Point{{X: p.X + 2, Y: p.Y}, {X: p.X, Y: p.Y + 2}} {
				if m, ok := at[q]; ok && bits.OnesCount(uint(n^m)) != 1 {
					t.Errorf("%v and %v do not differ in one bit", p, q)
				}
			}
		}
	}
}

func TestSymbolMapThatIsRefused(t *testing.T) {
	for _, width := range noPointWidths {
		for _, list := range [][]int{nil, {}, {0}, {1, 0}, {1, 0, 1, 1}, make([]int, 12), make([]int, maxBits), make([]int, maxBits+1), {2}} {
			got, ok := impl.Map(width, list)
			noPoints(t, "Map of no width", got, ok)
		}
	}
	for _, list := range noBitLists() {
		for _, width := range append([]int{0, 3, -2, 9}, pointWidths...) {
			got, ok := impl.Map(width, list)
			noPoints(t, "Map of no bits", got, ok)
		}
	}
	for _, width := range pointWidths {
		got, ok := impl.Map(width, make([]int, maxBits))
		holdPoints(t, "Map of MaxBits bits", got, ok, mapSlow(width, make([]int, maxBits)))
	}
}

func TestSymbolDecideByHand(t *testing.T) {
	const most = maxSample
	for _, c := range []struct {
		width  int
		points []impl.Point
		want   []int
	}{
		{4, []impl.Point{{X: 2, Y: -9}, {X: 0, Y: 1}}, []int{1, 0, 0, 0, 1, 1, 1, 1}},
		{2, nil, nil}, {4, []impl.Point{}, nil}, {6, nil, nil}, {8, nil, nil},
		{2, []impl.Point{{}}, []int{1, 1}}, {2, []impl.Point{{X: -1, Y: 1}}, []int{0, 1}}, {2, []impl.Point{{X: 1, Y: -1}}, []int{1, 0}}, {2, []impl.Point{{X: most, Y: -most}}, []int{1, 0}}, {2, []impl.Point{{X: -most, Y: most}}, []int{0, 1}}, {2, []impl.Point{{X: 0, Y: -1}, {X: -1, Y: 0}}, []int{1, 0, 0, 1}},
		{4, []impl.Point{{X: -2, Y: 2}}, []int{0, 1, 1, 0}}, {4, []impl.Point{{X: -3, Y: 3}}, []int{0, 0, 1, 0}}, {4, []impl.Point{{X: -4, Y: 4}}, []int{0, 0, 1, 0}}, {4, []impl.Point{{X: -1, Y: 1}}, []int{0, 1, 1, 1}}, {4, []impl.Point{{X: most, Y: most}}, []int{1, 0, 1, 0}}, {4, []impl.Point{{X: -most, Y: -most}}, []int{0, 0, 0, 0}},
		{6, []impl.Point{{X: -6, Y: 6}}, []int{0, 0, 1, 1, 0, 0}}, {6, []impl.Point{{X: -7, Y: 5}}, []int{0, 0, 0, 1, 0, 1}}, {6, []impl.Point{{X: 0, Y: -2}}, []int{1, 1, 0, 0, 1, 0}},
		{8, []impl.Point{{X: -14, Y: 14}}, []int{0, 0, 0, 1, 1, 0, 0, 0}}, {8, []impl.Point{{X: 0, Y: 0}}, []int{1, 1, 0, 0, 1, 1, 0, 0}}, {8, []impl.Point{{X: -16, Y: 13}}, []int{0, 0, 0, 0, 1, 0, 0, 1}}, {8, []impl.Point{{X: most, Y: -most}}, []int{1, 0, 0, 0, 0, 0, 0, 0}},
	} {
		got, ok := impl.Decide(c.width, c.points)
		holdSignal(t, "Decide by hand", got, ok, c.want)
		holdSignal(t, "the oracle by hand", decideSlow(c.width, c.points), true, c.want)
	}
}

func decideHolds(t *testing.T, width int, points []impl.Point) {
	t.Helper()
	got, ok := impl.Decide(width, points)
	holdSignal(t, "Decide", got, ok, decideSlow(width, points))
}

// inPieces decides a list of any length, as many points at a time as there may be.
func inPieces(t *testing.T, width int, points []impl.Point) {
	t.Helper()
	for piece := range slices.Chunk(points, maxBits/width) {
		decideHolds(t, width, piece)
	}
}

// Just at a level, between two, and beyond the first and the last one.
func TestSymbolDecideAroundTheLevels(t *testing.T) {
	for _, width := range pointWidths {
		points := []impl.Point{}
		for x := -20; x <= 20; x++ {
			for y := -20; y <= 20; y++ {
				points = append(points, impl.Point{X: x, Y: y})
			}
		}
		inPieces(t, width, points)
	}
}

func TestSymbolDecideFarOff(t *testing.T) {
	some := []int{maxSample, -maxSample, maxSample - 1, 1 - maxSample, 0, -1, 1, 2, -2, 16, -16, 17, -17, 256, -256, 100000, -100000, 1 << 29, -1 << 29}
	points := []impl.Point{}
	for _, x := range some {
		for _, y := range some {
			points = append(points, impl.Point{X: x, Y: y})
		}
	}
	g := formSource(1312)
	for range 500 {
		points = append(points, impl.Point{X: g.ofAnySize(maxSample), Y: g.ofAnySize(maxSample)})
	}
	for _, width := range pointWidths {
		inPieces(t, width, points)
	}
}

// A point moved by half the way to its neighbour stays where that is a lesser one, and becomes it where that is a greater one.
func TestSymbolDecideHalfTheWay(t *testing.T) {
	for _, width := range pointWidths {
		top := 1<<(width/2) - 1
		for _, text := range allTexts(width) {
			points, _ := impl.Map(width, bitsOfText(text))
			p := points[0]
			for _, by := range []impl.Point{{}, {X: -1}, {Y: -1}, {X: -1, Y: -1}, {X: 1}, {Y: 1}, {X: 1, Y: 1}, {X: -1, Y: 1}, {X: 1, Y: -1}} {
				want := impl.Point{X: min(p.X+2*max(by.X, 0), top), Y: min(p.Y+2*max(by.Y, 0), top)}
				got, ok := impl.Decide(width, []impl.Point{{X: p.X + by.X, Y: p.Y + by.Y}})
				if !ok {
					t.Fatalf("Decide of %v moved by %v is refused", p, by)
				}
				back, ok := impl.Map(width, got)
				holdPoints(t, "a point moved by half the way", back, ok, []impl.Point{want})
			}
		}
	}
}

func noDecision(t *testing.T, what string, width int, points []impl.Point) {
	t.Helper()
	got, ok := impl.Decide(width, points)
	noSignal(t, "Decide of "+what, got, ok)
}

func TestSymbolDecideOfAsManyPointsAsMayBe(t *testing.T) {
	for _, width := range pointWidths {
		g := formSource(1313)
		points := []impl.Point{}
		for range maxBits/width + 2 {
			points = append(points, impl.Point{X: g.within(20), Y: g.within(20)})
		}
		most := maxBits / width
		decideHolds(t, width, points[:most])
		decideHolds(t, width, points[:most-1])
		noDecision(t, "one point too many", width, points[:most+1])
		noDecision(t, "two points too many", width, points[:most+2])
		noDecision(t, "far too many points", width, make([]impl.Point, 3000))
	}
	// 170 points of six bits are 1020, one more would be 1026.
	decideHolds(t, 6, make([]impl.Point, 170))
	noDecision(t, "171 points of six bits", 6, make([]impl.Point, 171))
}

func TestSymbolDecideThatIsRefused(t *testing.T) {
	for _, width := range noPointWidths {
		for _, points := range [][]impl.Point{nil, {}, {{X: 1, Y: 1}}, make([]impl.Point, 100), make([]impl.Point, 2000), {{X: maxSample + 1}}} {
			noDecision(t, "no width", width, points)
		}
	}
	for _, width := range pointWidths {
		for _, bad := range []int{maxSample + 1, -maxSample - 1, 1 << 31, 1 << 32, 1<<32 + 1, -1 << 32, 1 - 1<<32, math.MaxInt, math.MaxInt - 1, math.MinInt, math.MinInt + 1} {
			for _, points := range [][]impl.Point{
				{{X: bad}}, {{Y: bad}}, {{X: bad, Y: bad}}, {{X: bad, Y: -bad}}, {{}, {}, {X: bad}}, {{}, {}, {Y: bad}}, {{X: bad}, {}, {}}, {{Y: bad}, {}, {}}, {{}, {X: bad}, {}}, {{}, {Y: bad}, {}},
			} {
				noDecision(t, "no sample", width, points)
			}
			full := make([]impl.Point, maxBits/width)
			full[len(full)-1].Y = bad
			noDecision(t, "no sample at the end", width, full)
		}
		decideHolds(t, width, []impl.Point{{X: maxSample, Y: maxSample}, {X: -maxSample, Y: -maxSample}, {X: maxSample, Y: -maxSample}})
	}
}
