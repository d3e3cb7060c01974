package tests

import (
	"math"
	"math/big"
	"slices"
	"testing"

	"loop.example/g00043/impl"
)

// The oracle of the residues: each sum as the chapter's words have it, number by number, and powers and remainders of numbers without an end.

var primes = []int{impl.PrimeA, impl.PrimeB, impl.PrimeC}

// noPrimes has other primes too, numbers made of the three, and such as are one of them but for a sign or for bits that get lost.
var noPrimes = []int{
	0, 1, 2, 3, 7, 17, 257, -1, -7, impl.PrimeA - 1, impl.PrimeA + 1, impl.PrimeB - 1, impl.PrimeB + 1, impl.PrimeC - 1, impl.PrimeC + 1, -impl.PrimeA, -impl.PrimeB, -impl.PrimeC,
	754974721, 2013265921, 1000000007, impl.PrimeA * 2, impl.PrimeA * impl.PrimeB, impl.PrimeB * impl.PrimeC, 1<<32 + impl.PrimeA, 1<<40 + impl.PrimeC, impl.MaxBig, math.MaxInt, math.MinInt, math.MinInt + 1, math.MinInt + 2,
}

var wholes = []int{1, 2, 4, 8, 16, 32, 64, 128, 256}

var noWholes = []int{0, 3, 5, 6, 7, 9, 12, 15, 17, 24, 31, 33, 48, 63, 65, 96, 127, 129, 192, 255, 257, 384, 511, 512}

// noResidues are numbers that are none of p, some of them of the same rest as one that is.
func noResidues(p int) []int {
	return []int{p, -1, p + 1, -2, 2 * p, -p, 1 - p, 1 << 32, 1<<32 + 1, -1 << 32, impl.MaxBig, math.MaxInt, math.MinInt}
}

func modOf(x int, p int) int { return int(new(big.Int).Mod(bigOf(x), bigOf(p)).Int64()) }

func mulMod(a, b, p int) int {
	product := new(big.Int).Mul(bigOf(a), bigOf(b))
	return int(product.Mod(product, bigOf(p)).Int64())
}

func powBig(a, n, p int) *big.Int { return new(big.Int).Exp(bigOf(a), bigOf(n), bigOf(p)) }

func inverseBig(a, p int) int { return int(new(big.Int).ModInverse(bigOf(a), bigOf(p)).Int64()) }

// turnsBig are the powers 0 .. n - 1 of what is to the n 1, the other way around where back is set.
func turnsBig(n, p int, back bool) []int {
	unit := int(powBig(3, (p-1)/n, p).Int64())
	if back {
		unit = inverseBig(unit, p)
	}
	turns := []int{}
	for k := range n {
		turns = append(turns, int(powBig(unit, k, p).Int64()))
	}
	return turns
}

func dftSlow(list []int, p int, back bool) []int {
	n := len(list)
	turns := turnsBig(n, p, back)
	answer := []int{}
	for k := range n {
		sum := 0
		for i, x := range list {
			sum = (sum + x*turns[i*k%n]) % p
		}
		if back {
			sum = mulMod(sum, inverseBig(n, p), p)
		}
		answer = append(answer, sum)
	}
	return answer
}

// dft2Slow knows no order of rows and columns: each number is one sum of all.
func dft2Slow(rows [][]int, p int, back bool) [][]int {
	down, along := turnsBig(len(rows), p, back), turnsBig(len(rows[0]), p, back)
	share := 1
	if back {
		share = inverseBig(len(rows)*len(rows[0]), p)
	}
	answer := [][]int{}
	for r := range len(rows) {
		row := []int{}
		for c := range len(rows[0]) {
			sum := 0
			for i := range rows {
				for j, x := range rows[i] {
					sum = (sum + x*down[i*r%len(down)]%p*along[j*c%len(along)]) % p
				}
			}
			row = append(row, mulMod(sum, share, p))
		}
		answer = append(answer, row)
	}
	return answer
}

func turnedAround(rows [][]int) [][]int {
	columns := make([][]int, len(rows[0]))
	for _, row := range rows {
		for at, x := range row {
			columns[at] = append(columns[at], x)
		}
	}
	return columns
}

// walshSlow counts the bits that are set in both one by one.
func walshSlow(list []int) []int {
	answer := []int{}
	for k := range list {
		sum := 0
		for i, x := range list {
			for bit := 1; bit <= i; bit *= 2 {
				if i&bit != 0 && k&bit != 0 {
					x = -x
				}
			}
			sum += x
		}
		answer = append(answer, sum)
	}
	return answer
}

func convolveSlow(a, b []int) []int {
	answer := []int{}
	if len(a) == 0 || len(b) == 0 {
		return answer
	}
	for k := 0; k <= len(a)+len(b)-2; k++ {
		sum := new(big.Int)
		for i := range a {
			if k-i >= 0 && k-i < len(b) {
				sum.Add(sum, new(big.Int).Mul(bigOf(a[i]), bigOf(b[k-i])))
			}
		}
		answer = append(answer, int(sum.Int64()))
	}
	return answer
}

func aroundSlow(a, b []int) []int {
	answer := []int{}
	for k := range a {
		sum := new(big.Int)
		for i := range a {
			sum.Add(sum, new(big.Int).Mul(bigOf(a[i]), bigOf(b[modOf(k-i, len(b))])))
		}
		answer = append(answer, int(sum.Int64()))
	}
	return answer
}

// togetherBig adds up three numbers of which each has one residue and leaves nothing by the two other primes, and takes the product of all away where what is left is nearer to 0.
func togetherBig(residues [3]int) *big.Int {
	all := bigOf(1)
	for _, p := range primes {
		all.Mul(all, bigOf(p))
	}
	sum := new(big.Int)
	for at, p := range primes {
		others := new(big.Int).Quo(all, bigOf(p))
		part := new(big.Int).ModInverse(others, bigOf(p))
		sum.Add(sum, part.Mul(part, others).Mul(part, bigOf(residues[at])))
	}
	sum.Mod(sum, all)
	if below := new(big.Int).Sub(sum, all); below.CmpAbs(sum) < 0 {
		sum = below
	}
	if sum.CmpAbs(bigOf(impl.MaxBig)) > 0 {
		return new(big.Int)
	}
	return sum
}

// residues gives residues of p, often the ends.
func (g *formSource) residues(p int, count int) []int {
	list := make([]int, 0, count)
	for range count {
		switch g.next() % 8 {
		case 0:
			list = append(list, 0)
		case 1:
			list = append(list, p-1)
		default:
			list = append(list, int(g.next()%uint64(p)))
		}
	}
	return list
}

func (g *formSource) rows(p int, count int, length int) [][]int {
	rows := [][]int{}
	for range count {
		rows = append(rows, g.residues(p, length))
	}
	return rows
}

func holdRows(t *testing.T, what string, got [][]int, ok bool, want [][]int) {
	t.Helper()
	if !ok || !slices.EqualFunc(got, want, slices.Equal[[]int]) {
		t.Errorf("%s is %v %v, not %v", what, got, ok, want)
	}
}

func noRows(t *testing.T, what string, got [][]int, ok bool) {
	t.Helper()
	if ok || len(got) != 0 {
		t.Errorf("%s is not refused: %v %v", what, got, ok)
	}
}

func holdInt(t *testing.T, what string, got int, want int, of ...any) {
	t.Helper()
	if got != want {
		t.Errorf("%s of %v is %d, not %d", what, of, got, want)
	}
}
