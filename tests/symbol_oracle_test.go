package tests

import (
	"math"
	"slices"
	"strconv"
	"strings"
	"testing"

	"loop.example/g00043/impl"
)

// The oracle of symbols: bits are texts of noughts and ones, Gray's order is a list of such texts and its mirror image, the nearest point is searched among all points, a register is a row of sixteen cells, and rows are laid out one below the other.

const (
	maxBits  = impl.MaxBits
	maxBig   = impl.MaxBig
	maxWoven = 64
	maxTurn  = 65535
)

var (
	pointWidths   = []int{2, 4, 6, 8}
	noPointWidths = []int{0, 1, 3, 5, 7, 9, 10, 12, 16, -1, -2, -4, -8, 1 << 32, 1<<32 + 2, 1<<32 + 4, 2 - 1<<32, math.MaxInt, math.MinInt, math.MinInt + 2}
	someTurns     = []int{1, 2, 3, 5, 6, 0x8000, 0x8001, 0xB400, 0xA001, 0x7FFF, 0xAAAA, 0x5555, 0x0100, 0xFFFE, maxTurn}
	noTurns       = []int{65536, -1, 65537, -2, -65535, -65536, 1 << 17, 1 << 32, 1<<32 + 1, 1 - 1<<32, math.MaxInt, math.MinInt, math.MinInt + 1}
	bitLengths    = []int{0, 1, 2, 3, 7, 8, 9, 15, 16, 17, 18, 31, 32, 33, 63, 64, 65, 100, 255, 256, 257, 513, 1000, maxBits - 1, maxBits}
)

func textOfBits(bits []int) string {
	text := strings.Builder{}
	for _, bit := range bits {
		text.WriteString(strconv.Itoa(bit))
	}
	return text.String()
}

func bitsOfText(text string) []int {
	bits := []int{}
	for _, r := range text {
		bits = append(bits, strings.IndexRune("01", r))
	}
	return bits
}

func numberOfText(text string) int {
	n, err := strconv.ParseInt(text, 2, 64)
	if err != nil {
		panic(err)
	}
	return int(n)
}

// graySlow writes a 1 wherever a digit differs from the one ahead.
func graySlow(n int) int {
	text := strconv.FormatInt(int64(n), 2)
	told := text[:1]
	for at := 1; at < len(text); at++ {
		if text[at] == text[at-1] {
			told += "0"
		} else {
			told += "1"
		}
	}
	return numberOfText(told)
}

// unGraySlow writes how often a 1 stood up to each digit, modulo 2.
func unGraySlow(n int) int {
	text := strconv.FormatInt(int64(n), 2)
	told := ""
	for at := range text {
		told += strconv.Itoa(strings.Count(text[:at+1], "1") % 2)
	}
	return numberOfText(told)
}

// mirroredTexts has at the place u the text of so many bits that is Gray of u: 0 ahead of each shorter one, then 1 ahead of each, the last first.
func mirroredTexts(half int) []string {
	if half == 0 {
		return []string{""}
	}
	shorter := mirroredTexts(half - 1)
	texts := []string{}
	for _, text := range shorter {
		texts = append(texts, "0"+text)
	}
	slices.Reverse(shorter)
	for _, text := range shorter {
		texts = append(texts, "1"+text)
	}
	return texts
}

func mapSlow(width int, bits []int) []impl.Point {
	text := textOfBits(bits)
	for len(text)%width != 0 {
		text += "0"
	}
	half := width / 2
	order := mirroredTexts(half)
	points := []impl.Point{}
	for ; text != ""; text = text[width:] {
		x, y := slices.Index(order, text[:half]), slices.Index(order, text[half:width])
		points = append(points, impl.Point{X: 2*x - (len(order) - 1), Y: 2*y - (len(order) - 1)})
	}
	return points
}

func farness(a, b impl.Point) int { return (a.X-b.X)*(a.X-b.X) + (a.Y-b.Y)*(a.Y-b.Y) }

// allTexts are all texts of so many bits.
func allTexts(width int) []string { return slices.Sorted(slices.Values(mirroredTexts(width))) }

// decideSlow holds each point against every point of Map; of some as near it takes the one furthest to the right and up.
func decideSlow(width int, points []impl.Point) []int {
	texts := allTexts(width)
	all := mapSlow(width, bitsOfText(strings.Join(texts, "")))
	told := ""
	for _, p := range points {
		best := 0
		for at, q := range all {
			nearer := farness(p, q) - farness(p, all[best])
			if nearer < 0 || nearer == 0 && q.X >= all[best].X && q.Y >= all[best].Y {
				best = at
			}
		}
		told += texts[best]
	}
	return bitsOfText(told)
}

func differSlow(bits []int) []int {
	told := []int{}
	for at := range bits {
		told = append(told, sumOfInts(bits[:at+1])%2)
	}
	return told
}

func unDifferSlow(bits []int) []int {
	told := []int{}
	for at, bit := range bits {
		told = append(told, (bit+sampleAt(bits, at-1))%2)
	}
	return told
}

// turnCells are a register's bits, the lowest first.
type turnCells [16]int

func cellsOf(n int) turnCells {
	cells := turnCells{}
	for k := range cells {
		cells[k] = n % 2
		n /= 2
	}
	return cells
}

func stirSlow(bits []int, taps, seed int) []int {
	cells, told := cellsOf(seed), []int{}
	for _, bit := range bits {
		low := cells[0]
		told = append(told, (bit+low)%2)
		copy(cells[:], cells[1:])
		cells[15] = 0
		for k, tap := range cellsOf(taps) {
			cells[k] = (cells[k] + low*tap) % 2
		}
	}
	return told
}

// followSlow gives the register what was told, or what came.
func followSlow(bits []int, taps int, came bool) []int {
	cells, told := turnCells{}, []int{}
	for _, bit := range bits {
		sum := bit
		for k, tap := range cellsOf(taps) {
			sum += tap * cells[k]
		}
		told = append(told, sum%2)
		copy(cells[1:], cells[:15])
		cells[0] = sum % 2
		if came {
			cells[0] = bit
		}
	}
	return told
}

// rowsOf lays a list out; the last rows may be short or empty.
func rowsOf(list []int, count int) [][]int {
	length := len(list) / count
	if len(list)%count != 0 {
		length++
	}
	rows := [][]int{}
	for range count {
		n := min(length, len(list))
		rows = append(rows, list[:n])
		list = list[n:]
	}
	return rows
}

func weaveSlow(list []int, count int) []int {
	rows := rowsOf(list, count)
	told := []int{}
	for column := range rows[0] {
		for _, row := range rows {
			if column < len(row) {
				told = append(told, row[column])
			}
		}
	}
	return told
}

// counted are the numbers from 0 on, which say where they stood.
func counted(n int) []int {
	list := make([]int, n)
	for at := range list {
		list[at] = at
	}
	return list
}

// unweaveSlow asks of each place where weaving puts it.
func unweaveSlow(list []int, count int) []int {
	where := weaveSlow(counted(len(list)), count)
	told := []int{}
	for place := range list {
		told = append(told, list[slices.Index(where, place)])
	}
	return told
}

func pack8Slow(bits []int) []byte {
	text := textOfBits(bits)
	for len(text)%8 != 0 {
		text += "0"
	}
	told := []byte{}
	for ; text != ""; text = text[8:] {
		told = append(told, byte(numberOfText(text[:8])))
	}
	return told
}

func unpack8Slow(b []byte, n int) []int {
	text := ""
	for _, x := range b {
		digits := strconv.FormatInt(int64(x), 2)
		text += strings.Repeat("0", 8-len(digits)) + digits
	}
	return bitsOfText(text[:n])
}

// flips gives bits that look like chance.
func (g *formSource) flips(count int) []int {
	list := make([]int, 0, count)
	for range count {
		list = append(list, int(g.next()>>63))
	}
	return list
}

// manyBitLists gives lists of many lengths: of noughts, of ones, of one 1 alone, of few of them, and by chance.
func manyBitLists(seed uint64, call func(bits []int)) {
	g := formSource(seed)
	for _, n := range bitLengths {
		call(make([]int, n))
		call(slices.Repeat([]int{1}, n))
		for range 3 {
			call(g.flips(n))
		}
		if n == 0 {
			continue
		}
		single, few := make([]int, n), make([]int, n)
		single[g.next()%uint64(n)] = 1
		for range n/8 + 1 {
			few[g.next()%uint64(n)] = 1
		}
		call(single)
		call(few)
	}
}

// shortBits gives all bits of up to so many.
func shortBits(most int, call func(bits []int)) {
	for n := range most + 1 {
		for _, text := range allTexts(n) {
			call(bitsOfText(text))
		}
	}
}

// noBitLists are too long, or have a number that is no bit at the beginning, at the end or between.
func noBitLists() [][]int {
	lists := [][]int{make([]int, maxBits+1), slices.Repeat([]int{1}, maxBits+1), make([]int, maxBits+2), make([]int, 5000)}
	for _, bad := range []int{2, -1, 3, -2, 256, 257, 1 << 32, 1<<32 + 1, -1 << 32, 1 - 1<<32, math.MaxInt, math.MinInt, math.MinInt + 1} {
		full := slices.Repeat([]int{1}, maxBits)
		full[maxBits-1] = bad
		lists = append(lists, []int{bad}, []int{bad, 0, 1}, []int{0, bad, 1}, []int{1, 0, bad}, []int{1, 0, 1, 0, 1, 1, 0, 1, bad}, full)
	}
	return lists
}

func holdPoints(t *testing.T, what string, got []impl.Point, ok bool, want []impl.Point) {
	t.Helper()
	if !ok || !slices.Equal(got, want) {
		t.Errorf("%s is %v %v, not %v", what, got, ok, want)
	}
}

func noPoints(t *testing.T, what string, got []impl.Point, ok bool) {
	t.Helper()
	if ok || len(got) != 0 {
		t.Errorf("%s is not refused: %v %v", what, got, ok)
	}
}

func holdBytes(t *testing.T, what string, got []byte, ok bool, want []byte) {
	t.Helper()
	if !ok || !slices.Equal(got, want) {
		t.Errorf("%s is %v %v, not %v", what, got, ok, want)
	}
}

func noBytes(t *testing.T, what string, got []byte, ok bool) {
	t.Helper()
	if ok || len(got) != 0 {
		t.Errorf("%s is not refused: %v %v", what, got, ok)
	}
}
