package tests

import (
	"math"
	"testing"

	"loop.example/g00043/impl"
)

func TestResidueConstants(t *testing.T) {
	holdInt(t, "PrimeA", impl.PrimeA, 119<<23+1)
	holdInt(t, "PrimeB", impl.PrimeB, 5<<25+1)
	holdInt(t, "PrimeC", impl.PrimeC, 7<<26+1)
	holdInt(t, "MaxPoints", impl.MaxPoints, 256)
	holdInt(t, "MaxTap", impl.MaxTap, 1000000)
}

func TestResiduePowersByHand(t *testing.T) {
	for _, c := range []struct{ a, n, p, want int }{
		{2, 10, impl.PrimeB, 1024}, {7, 1, impl.PrimeA, 7}, {1, impl.MaxBig, impl.PrimeC, 1}, {2, 30, impl.PrimeA, 1<<30 - impl.PrimeA}, {10, 9, impl.PrimeA, 1000000000 - impl.PrimeA},
		{3, impl.MaxBig, impl.PrimeA, 405447975}, {3, impl.MaxBig, impl.PrimeB, 110675021}, {3, impl.MaxBig, impl.PrimeC, 268998007},
		{5, impl.MaxBig - 1, impl.PrimeA, 570707483}, {5, impl.MaxBig - 1, impl.PrimeB, 38954078}, {5, impl.MaxBig - 1, impl.PrimeC, 386588519},
	} {
		holdInt(t, "PowMod", impl.PowMod(c.a, c.n, c.p), c.want, c.a, c.n, c.p)
	}
	for _, p := range primes {
		for _, c := range []struct{ a, n, want int }{
			{0, 0, 1}, {1, 0, 1}, {p - 1, 0, 1}, {0, 1, 0}, {0, 2, 0}, {0, impl.MaxBig, 0}, {1, 1, 1}, {p - 1, 1, p - 1}, {p - 1, 2, 1}, {p - 1, impl.MaxBig, 1}, {p - 1, impl.MaxBig - 1, p - 1},
			{3, p - 1, 1}, {3, (p - 1) / 2, p - 1}, {3, p, 3}, {p - 3, 2, 9}, {p - 3, 3, p - 27},
		} {
			holdInt(t, "PowMod", impl.PowMod(c.a, c.n, p), c.want, c.a, c.n, p)
		}
	}
}

func TestResiduePowers(t *testing.T) {
	g := formSource(601)
	for _, p := range primes {
		for _, a := range append(g.residues(p, 40), 2, 3, p/2, p-2) {
			for _, n := range []int{0, 1, 2, 3, 4, 5, 31, 32, 33, p - 2, p - 1, p, 1 << 61, 1<<61 - 1, impl.MaxBig - 1, impl.MaxBig} {
				holdBig(t, "PowMod", impl.PowMod(a, n, p), powBig(a, n, p), a, n, p)
			}
			for range 40 {
				n := g.ofAnySize(impl.MaxBig)
				n = max(n, -n)
				holdBig(t, "PowMod", impl.PowMod(a, n, p), powBig(a, n, p), a, n, p)
			}
		}
	}
}

func TestResiduePowersThatAreNone(t *testing.T) {
	for _, p := range primes {
		for _, n := range []int{-1, -2, impl.MaxBig + 1, impl.MaxBig + 2, -impl.MaxBig, math.MaxInt, math.MinInt, 1 - p} {
			for _, a := range []int{0, 1, 3, p - 1} {
				holdInt(t, "PowMod", impl.PowMod(a, n, p), 0, a, n, p)
			}
		}
		for _, a := range noResidues(p) {
			for _, n := range []int{0, 1, 2, p - 2, impl.MaxBig} {
				holdInt(t, "PowMod", impl.PowMod(a, n, p), 0, a, n, p)
			}
		}
	}
	for _, p := range noPrimes {
		for _, a := range []int{0, 1, 2, -1, p, p - 1} {
			for _, n := range []int{0, 1, 10} {
				holdInt(t, "PowMod", impl.PowMod(a, n, p), 0, a, n, p)
			}
		}
	}
	// A residue of the one prime may be none of another.
	holdInt(t, "PowMod", impl.PowMod(impl.PrimeB, 1, impl.PrimeA), impl.PrimeB)
	holdInt(t, "PowMod", impl.PowMod(impl.PrimeA-1, 1, impl.PrimeB), 0)
	holdInt(t, "PowMod", impl.PowMod(impl.PrimeC, 1, impl.PrimeC), 0)
}

func TestResidueInverses(t *testing.T) {
	g := formSource(602)
	for at, p := range primes {
		holdInt(t, "InvMod", impl.InvMod(0, p), 0, 0, p)
		holdInt(t, "InvMod", impl.InvMod(1, p), 1, 1, p)
		holdInt(t, "InvMod", impl.InvMod(p-1, p), p-1, p-1, p)
		holdInt(t, "InvMod", impl.InvMod(2, p), (p+1)/2, 2, p)
		holdInt(t, "InvMod", impl.InvMod(3, p), []int{332748118, 55924054, 156587350}[at], 3, p)
		holdInt(t, "InvMod", impl.InvMod(12345, p), []int{398893430, 9431663, 304841132}[at], 12345, p)
		for _, a := range append(g.residues(p, 300), 1, 2, 3, 4, p/2, p/2+1, p-2, p-1) {
			x := impl.InvMod(a, p)
			if a == 0 {
				holdInt(t, "InvMod", x, 0, a, p)
				continue
			}
			if x < 1 || x >= p || mulMod(a, x, p) != 1 || impl.InvMod(x, p) != a {
				t.Errorf("InvMod of %d, %d is %d", a, p, x)
			}
		}
	}
}

func TestResidueInversesThatAreNone(t *testing.T) {
	for _, p := range primes {
		for _, a := range noResidues(p) {
			holdInt(t, "InvMod", impl.InvMod(a, p), 0, a, p)
		}
	}
	for _, p := range noPrimes {
		for _, a := range []int{0, 1, 2, 3, -1, p - 1, p} {
			holdInt(t, "InvMod", impl.InvMod(a, p), 0, a, p)
		}
	}
}

func TestResidueUnits(t *testing.T) {
	for at, p := range primes {
		holdInt(t, "Unit", impl.Unit(1, p), 1, 1, p)
		holdInt(t, "Unit", impl.Unit(2, p), p-1, 2, p)
		holdInt(t, "Unit", impl.Unit(4, p), []int{911660635, 65249968, 450151958}[at], 4, p)
		holdInt(t, "Unit", impl.Unit(256, p), []int{476477967, 26238939, 338628632}[at], 256, p)
		for _, n := range wholes {
			x := impl.Unit(n, p)
			holdBig(t, "Unit", x, powBig(3, (p-1)/n, p), n, p)
			holdInt(t, "Unit to its length", impl.PowMod(x, n, p), 1, n, p)
			if n > 1 {
				holdInt(t, "Unit to half its length", impl.PowMod(x, n/2, p), p-1, n, p)
				holdInt(t, "Unit squared", mulMod(x, x, p), impl.Unit(n/2, p), n, p)
			}
		}
	}
}

func TestResidueUnitsThatAreNone(t *testing.T) {
	for _, p := range primes {
		for _, n := range append([]int{-1, -2, -4, -256, 1024, 1 << 20, 1 << 23, 1 << 32, 1<<32 + 1, 1 << 62, math.MaxInt, math.MinInt, p - 1}, noWholes...) {
			holdInt(t, "Unit", impl.Unit(n, p), 0, n, p)
		}
	}
	for _, p := range noPrimes {
		for _, n := range []int{1, 2, 4, 256, 0, 3} {
			holdInt(t, "Unit", impl.Unit(n, p), 0, n, p)
		}
	}
}

func together(x int) int {
	return impl.Together(modOf(x, impl.PrimeA), modOf(x, impl.PrimeB), modOf(x, impl.PrimeC))
}

func TestResiduesTogetherByHand(t *testing.T) {
	for _, c := range []struct{ a, b, c, want int }{
		{0, 0, 0, 0}, {1, 1, 1, 1}, {impl.PrimeA - 7, impl.PrimeB - 7, impl.PrimeC - 7, -7}, {1, 0, 0, 0}, {0, 1, 0, 0}, {0, 0, 1, 0}, {5, 7, 11, 0}, {impl.PrimeA - 1, impl.PrimeB - 1, impl.PrimeC - 1, -1},
		{867794886, 8003352, 235417485, impl.MaxBig}, {130449467, 159768809, 234344564, -impl.MaxBig}, {867794887, 8003353, 235417486, 0}, {130449466, 159768808, 234344563, 0},
		{867794885, 8003351, 235417484, impl.MaxBig - 1}, {130449468, 159768810, 234344565, 1 - impl.MaxBig},
		{716070898, 2000838, 411175908, 1000000000000000000}, {246295023, 162226444, 91826899, -123456789012345678}, {0, 0, 339738624, impl.PrimeA * impl.PrimeB}, {0, 0, 130023425, -impl.PrimeA * impl.PrimeB},
		// These two are the farthest from 0 that there are.
		{499122176, 83886080, 234881024, 0}, {499122177, 83886081, 234881025, 0},
	} {
		holdInt(t, "Together", impl.Together(c.a, c.b, c.c), c.want, c.a, c.b, c.c)
	}
}

// Three residues tell a number, below 0 as above it.
func TestResiduesTogether(t *testing.T) {
	g := formSource(603)
	for _, x := range []int{0, 1, impl.PrimeA, impl.PrimeB, impl.PrimeC, impl.PrimeA - 1, impl.PrimeA + 1, impl.PrimeA * impl.PrimeC, impl.PrimeB * impl.PrimeC, impl.PrimeA*impl.PrimeB - 1, impl.PrimeA*impl.PrimeB + 1, 1 << 61, impl.MaxBig - 1, impl.MaxBig} {
		holdInt(t, "Together", together(x), x, x)
		holdInt(t, "Together", together(-x), -x, -x)
	}
	for times := range 24 {
		for _, more := range []int{-1, 0, 1} {
			x := impl.PrimeA*impl.PrimeB*times + more
			holdInt(t, "Together", together(x), x, x)
			holdInt(t, "Together", together(-x), -x, -x)
		}
	}
	for range 3000 {
		x := g.ofAnySize(impl.MaxBig)
		holdInt(t, "Together", together(x), x, x)
	}
	for _, x := range []int{impl.MaxBig + 1, impl.MaxBig + 2, impl.PrimeA * impl.PrimeB * 24, impl.PrimeA*impl.PrimeB*24 - 1, impl.PrimeA * impl.PrimeB * 25, impl.PrimeA * impl.PrimeB * 50, math.MaxInt} {
		holdInt(t, "Together", together(x), 0, x)
		holdInt(t, "Together", together(-x), 0, -x)
	}
	holdInt(t, "Together", together(math.MinInt), 0)
	for range 300 {
		x := impl.MaxBig + 1 + int(g.next()%(math.MaxInt-impl.MaxBig))
		holdInt(t, "Together", together(x), 0, x)
		holdInt(t, "Together", together(-x), 0, -x)
	}
}

// Beyond the numbers of the machine, and near the middle, where what is nearest to 0 changes its side.
func TestResiduesTogetherFarOff(t *testing.T) {
	g := formSource(604)
	for range 2000 {
		r := [3]int{g.residues(impl.PrimeA, 1)[0], g.residues(impl.PrimeB, 1)[0], g.residues(impl.PrimeC, 1)[0]}
		holdBig(t, "Together", impl.Together(r[0], r[1], r[2]), togetherBig(r), r)
	}
	// So often the product of two primes: the sum of these is past the end of an int, some come out as a small number there.
	often := []int{1000, 1 << 20, impl.PrimeC / 2, impl.PrimeC/2 - 1}
	for times := 23; times < 250; times++ {
		often = append(often, times)
	}
	for _, times := range often {
		for _, x := range []int{0, 1, impl.PrimeA, impl.PrimeA*impl.PrimeB - 1} {
			for _, sign := range []int{1, -1} {
				c := modOf(modOf(x, impl.PrimeC)+modOf(sign*times, impl.PrimeC)*modOf(impl.PrimeA*impl.PrimeB, impl.PrimeC), impl.PrimeC)
				r := [3]int{modOf(x, impl.PrimeA), modOf(x, impl.PrimeB), c}
				holdBig(t, "Together", impl.Together(r[0], r[1], r[2]), togetherBig(r), r, sign*times)
			}
		}
	}
}

func TestResiduesTogetherThatAreNone(t *testing.T) {
	for at, p := range primes {
		for _, bad := range noResidues(p) {
			for _, good := range []int{0, 1, 5} {
				r := [3]int{good, good, good}
				r[at] = bad
				holdInt(t, "Together", impl.Together(r[0], r[1], r[2]), 0, r)
				holdInt(t, "Together", impl.Together(bad, bad, bad), 0, bad)
			}
		}
	}
	// Taken modulo its prime each of these would tell a number.
	holdInt(t, "Together", impl.Together(impl.PrimeA+9, 9, 9), 0)
	holdInt(t, "Together", impl.Together(9, impl.PrimeB+9, 9), 0)
	holdInt(t, "Together", impl.Together(9, 9, impl.PrimeC+9), 0)
	holdInt(t, "Together", impl.Together(-9, impl.PrimeB-9, impl.PrimeC-9), 0)
	holdInt(t, "Together", impl.Together(impl.PrimeA-9, -9, impl.PrimeC-9), 0)
	holdInt(t, "Together", impl.Together(impl.PrimeA-9, impl.PrimeB-9, -9), 0)
	holdInt(t, "Together", impl.Together(impl.PrimeB, impl.PrimeB, impl.PrimeB), 0)
}
