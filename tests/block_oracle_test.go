package tests

import (
	"math"
	"math/bits"
	"slices"
	"testing"

	"loop.example/g00043/impl"
)

// The oracle of block codes: a check is the rest of a long division of all bits, words of eight bits are searched among all sixteen, products are those of polynomials, check bytes the rest by the product of all zeros, and what was hurt is found by equations that are solved line by line.

const (
	maxBlock   = impl.MaxBlock
	maxMend    = impl.MaxMend
	maxChecked = 65536
)

var noMends = []int{0, -1, maxMend + 1, -2, -8, maxMend + 2, 16, 127, 128, 255, 256, 257, 1 << 32, 1<<32 + 1, 1<<32 + 8, 1 - 1<<32, math.MaxInt, math.MaxInt - 1, math.MaxInt/2 + 1, math.MaxInt/2 + 2, math.MinInt, math.MinInt + 1, math.MinInt + 8}

// crcByRule takes the chapter's words one by one.
func crcByRule(b []byte) int {
	c := 65535
	for _, x := range b {
		c ^= 256 * int(x)
		for range 8 {
			before := c
			c = 2 * c
			if before >= 32768 {
				c ^= 4129
			}
			c %= 65536
		}
	}
	return c
}

// crcByDivision divides all bits, sixteen noughts behind them and the first sixteen turned, by x^16 + x^12 + x^5 + 1.
func crcByDivision(b []byte) int {
	line := append(bitsOfBytes(b), make([]int, 16)...)
	for at := range 16 {
		line[at] ^= 1
	}
	for at := range len(line) - 16 {
		if line[at] == 1 {
			for _, down := range []int{0, 4, 11, 16} {
				line[at+down] ^= 1
			}
		}
	}
	return numberOfText(textOfBits(line[len(line)-16:]))
}

func bitsOfBytes(b []byte) []int {
	list := make([]int, 0, 8*len(b)+16)
	for _, x := range b {
		for down := range 8 {
			list = append(list, int(x)>>(7-down)&1)
		}
	}
	return list
}

// hamSlow writes the digits one by one.
func hamSlow(n int) int {
	d3, d2, d1, d0 := n/8%2, n/4%2, n/2%2, n%2
	word := []int{d3, d2, d1, d0, (d3 + d2 + d1) % 2, (d3 + d2 + d0) % 2, (d3 + d1 + d0) % 2}
	word = append(word, sumOfInts(word)%2)
	return numberOfText(textOfBits(word))
}

func unHamSlow(w int) (int, int) {
	for most := range 2 {
		for n := range 16 {
			if bits.OnesCount8(uint8(hamSlow(n)^w)) == most {
				return n, most
			}
		}
	}
	return -1, 2
}

// productSlow multiplies two polynomials in full, and only then divides.
func productSlow(a, b int) int {
	product := 0
	for i := range 8 {
		for j := range 8 {
			product ^= (a >> i & 1) * (b >> j & 1) << (i + j)
		}
	}
	for high := 14; high >= 8; high-- {
		if product>>high&1 == 1 {
			product ^= (1<<8 + 1<<4 + 1<<3 + 1<<2 + 1) << (high - 8)
		}
	}
	return product
}

var (
	productTable = makeProducts()
	inverseTable = makeInverses()
)

func makeProducts() [256][256]byte {
	table := [256][256]byte{}
	for a := range 256 {
		for b := range 256 {
			table[a][b] = byte(productSlow(a, b))
		}
	}
	return table
}

func makeInverses() [256]byte {
	table := [256]byte{}
	for a := range 256 {
		for b := range 256 {
			if productTable[a][b] == 1 {
				table[a] = byte(b)
			}
		}
	}
	return table
}

func powerSlow(a byte, times int) byte {
	power := byte(1)
	for range times {
		power = productTable[power][a]
	}
	return power
}

// valueSlow adds up each byte times its power of x, the last byte being that of the power 0.
func valueSlow(word []byte, x byte) byte {
	sum, power := byte(0), byte(1)
	for at := len(word) - 1; at >= 0; at-- {
		sum ^= productTable[word[at]][power]
		power = productTable[power][x]
	}
	return sum
}

func syndromesSlow(word []byte, mend int) []byte {
	list := []byte{}
	for at := range 2 * mend {
		list = append(list, valueSlow(word, powerSlow(2, at)))
	}
	return list
}

func isCodeSlow(word []byte, mend int) bool {
	return mend >= 1 && mend <= 8 && len(word) >= 2*mend+1 && len(word) <= 255 && !slices.ContainsFunc(syndromesSlow(word, mend), func(x byte) bool { return x != 0 })
}

// zerosSlow multiplies x minus each of the powers, the highest power first.
func zerosSlow(mend int) []byte {
	product := []byte{1}
	for at := range 2 * mend {
		zero := powerSlow(2, at)
		next := append(slices.Clone(product), 0)
		for i, number := range product {
			next[i+1] ^= productTable[number][zero]
		}
		product = next
	}
	return product
}

// codeSlow has behind the data what is left when it is divided by the product of all zeros.
func codeSlow(data []byte, mend int) []byte {
	zeros := zerosSlow(mend)
	rest := append(slices.Clone(data), make([]byte, 2*mend)...)
	for at := range data {
		factor := rest[at]
		for i, number := range zeros {
			rest[at+i] ^= productTable[factor][number]
		}
	}
	return append(slices.Clone(data), rest[len(data):]...)
}

// cleared takes the line of a column out of all others; it is false where no line below has that column.
func cleared(lines [][]byte, column int) bool {
	for at := column; at < len(lines); at++ {
		if lines[at][column] != 0 {
			lines[column], lines[at] = lines[at], lines[column]
			break
		}
	}
	if column >= len(lines) || lines[column][column] == 0 {
		return false
	}
	scale := inverseTable[lines[column][column]]
	for i, x := range lines[column] {
		lines[column][i] = productTable[x][scale]
	}
	for at := range lines {
		factor := lines[at][column]
		if at == column {
			continue
		}
		for i, x := range lines[column] {
			lines[at][i] ^= productTable[x][factor]
		}
	}
	return true
}

// solved tells the one solution of lines that have what they come to as their last number.
func solved(lines [][]byte, unknowns int) ([]byte, bool) {
	for column := range unknowns {
		if !cleared(lines, column) {
			return nil, false
		}
	}
	solution := []byte{}
	for at, line := range lines {
		if at < unknowns {
			solution = append(solution, line[unknowns])
		} else if line[unknowns] != 0 {
			return nil, false
		}
	}
	return solution, true
}

// fillSlow has an equation for each syndrome, and for each place of gone an unknown.
func fillSlow(word []byte, gone []int, mend int) ([]byte, bool) {
	lines := [][]byte{}
	for at, syndrome := range syndromesSlow(word, mend) {
		line := []byte{}
		for _, place := range gone {
			line = append(line, powerSlow(powerSlow(2, at), len(word)-1-place))
		}
		lines = append(lines, append(line, syndrome))
	}
	amounts, ok := solved(lines, len(gone))
	if !ok {
		return nil, false
	}
	told := slices.Clone(word)
	for at, place := range gone {
		told[place] ^= amounts[at]
	}
	return told, true
}

// mendSlow tries each count of hurt places, the highest first: where the equations for the numbers of their polynomial have one solution, they are so many.
func mendSlow(word []byte, mend int) ([]byte, int, bool) {
	s := syndromesSlow(word, mend)
	for count := mend; count >= 1; count-- {
		lines := [][]byte{}
		for row := range count {
			lines = append(lines, slices.Clone(s[row:row+count+1]))
		}
		numbers, ok := solved(lines, count)
		if !ok {
			continue
		}
		slices.Reverse(numbers)
		places := []int{}
		for place := range word {
			if valueSlow(append([]byte{1}, numbers...), powerSlow(2, len(word)-1-place)) == 0 {
				places = append(places, place)
			}
		}
		told, ok := fillSlow(word, places, mend)
		return told, len(places), ok && len(places) == count
	}
	return slices.Clone(word), 0, isCodeSlow(word, mend)
}

func differences(a, b []byte) int {
	count := 0
	for at := range a {
		if a[at] != b[at] {
			count++
		}
	}
	return count
}

// nearSlow searches among all code words that are given.
func nearSlow(all [][]byte, word []byte, mend int) ([]byte, int, bool) {
	for _, code := range all {
		if far := differences(code, word); far <= mend {
			return code, far, true
		}
	}
	return nil, 0, false
}

// allCodes are the code words of one byte of data, or of two.
func allCodes(count, mend int) [][]byte {
	all := [][]byte{}
	for number := range 1 << (8 * count) {
		data := []byte{byte(number / 256), byte(number)}
		all = append(all, codeSlow(data[2-count:], mend))
	}
	return all
}

func (g *formSource) bytes(count int) []byte {
	list := make([]byte, 0, count)
	for range count {
		list = append(list, byte(g.next()>>56))
	}
	return list
}

// places are so many ascending places, each choice of them as likely.
func (g *formSource) places(n, count int) []int {
	list := counted(n)
	for at := range count {
		other := at + int(g.next()%uint64(n-at))
		list[at], list[other] = list[other], list[at]
	}
	return slices.Sorted(slices.Values(list[:count]))
}

// hurt changes each of the bytes at those places.
func (g *formSource) hurt(word []byte, places []int) []byte {
	told := slices.Clone(word)
	for _, place := range places {
		told[place] ^= byte(1 + g.next()%255)
	}
	return told
}

// dataLengths are the lengths of data that a mend allows: the least, the greatest, and some between.
func dataLengths(mend int) []int {
	most := maxBlock - 2*mend
	return []int{1, 2, 3, 5, 16, 17, 40, 100, most - 1, most}
}

// manyCodes gives code words of every mend and of many lengths: of noughts, of full bytes, and by chance.
func manyCodes(seed uint64, call func(g *formSource, word []byte, mend int)) {
	g := formSource(seed)
	for mend := 1; mend <= maxMend; mend++ {
		for _, n := range dataLengths(mend) {
			for _, data := range [][]byte{make([]byte, n), slices.Repeat([]byte{255}, n), g.bytes(n)} {
				call(&g, codeSlow(data, mend), mend)
			}
		}
	}
}

func noMendOf(t *testing.T, what string, word []byte, mend int) {
	t.Helper()
	got, far, ok := impl.RsMend(word, mend)
	noBytes(t, "RsMend of "+what, got, ok)
	holdInt(t, "the count beside a refusal", far, 0, what)
}

func noFillOf(t *testing.T, what string, word []byte, gone []int, mend int) {
	t.Helper()
	got, ok := impl.RsFill(word, gone, mend)
	noBytes(t, "RsFill of "+what, got, ok)
}

func noCodeOf(t *testing.T, what string, data []byte, mend int) {
	t.Helper()
	got, ok := impl.RsCode(data, mend)
	noBytes(t, "RsCode of "+what, got, ok)
}

func okHolds(t *testing.T, word []byte, mend int) {
	t.Helper()
	if got, want := impl.RsOk(word, mend), isCodeSlow(word, mend); got != want {
		t.Errorf("RsOk of %v with mend %d is %v", word, mend, got)
	}
}

// mendHolds wants the same as the oracle, and by itself: what is told is a code word, as far away as told.
func mendHolds(t *testing.T, word []byte, mend int) {
	t.Helper()
	want, wantFar, wantOk := mendSlow(word, mend)
	if !wantOk {
		noMendOf(t, "a word far from all", word, mend)
		return
	}
	mendsTo(t, word, mend, want, wantFar)
}

func mendsTo(t *testing.T, word []byte, mend int, want []byte, far int) {
	t.Helper()
	got, gotFar, ok := impl.RsMend(word, mend)
	holdBytes(t, "RsMend", got, ok, want)
	holdInt(t, "the count of RsMend", gotFar, far, word, mend)
	if ok && (!isCodeSlow(got, mend) || len(got) != len(word) || differences(got, word) != gotFar || gotFar > mend) {
		t.Errorf("RsMend of %v tells %v, in %d bytes another, with mend %d", word, got, gotFar, mend)
	}
}

func fillHolds(t *testing.T, word []byte, gone []int, mend int) {
	t.Helper()
	want, ok := fillSlow(word, gone, mend)
	if !ok {
		noFillOf(t, "a word that is hurt elsewhere", word, gone, mend)
		return
	}
	fillsTo(t, word, gone, mend, want)
}

func fillsTo(t *testing.T, word []byte, gone []int, mend int, want []byte) {
	t.Helper()
	got, ok := impl.RsFill(word, gone, mend)
	holdBytes(t, "RsFill", got, ok, want)
	if !ok || len(got) != len(word) {
		return
	}
	for place := range word {
		if got[place] != word[place] && !slices.Contains(gone, place) {
			t.Errorf("RsFill of %v, gone at %v, has changed the place %d", word, gone, place)
		}
	}
}
