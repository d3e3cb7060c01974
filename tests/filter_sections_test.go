package tests

import (
	"slices"
	"testing"

	"loop.example/g00043/impl"
)

func TestFilterIirByHand(t *testing.T) {
	const most = maxTap
	for _, c := range []struct {
		s      impl.Section
		p      impl.Past
		list   []int
		want   []int
		behind impl.Past
	}{
		{impl.Section{}, impl.Past{}, nil, nil, impl.Past{}},
		{impl.Section{B0: 5, A2: -7}, impl.Past{X1: 1, X2: -2, Y1: 3, Y2: -4, E: 5}, nil, nil, impl.Past{X1: 1, X2: -2, Y1: 3, Y2: -4, E: 5}},
		{impl.Section{}, impl.Past{}, []int{5, -7}, []int{0, 0}, impl.Past{X1: -7, X2: 5}},
		{impl.Section{}, impl.Past{X1: 1, X2: 2, Y1: 3, Y2: 4, E: 16383}, []int{9}, []int{0}, impl.Past{X1: 9, X2: 1, Y2: 3, E: 16383}},
		{impl.Section{B0: 16384}, impl.Past{}, []int{5, -7, most, -most}, []int{5, -7, most, -most}, impl.Past{X1: -most, X2: most, Y1: -most, Y2: most}},
		{impl.Section{B1: 16384}, impl.Past{X1: 4}, []int{5, -7, 1}, []int{4, 5, -7}, impl.Past{X1: 1, X2: -7, Y1: -7, Y2: 5}},
		{impl.Section{B2: 16384}, impl.Past{X1: 4, X2: 3}, []int{5, -7, 1}, []int{3, 4, 5}, impl.Past{X1: 1, X2: -7, Y1: 5, Y2: 4}},
		{impl.Section{A1: 16384}, impl.Past{Y1: 4}, []int{9, 9, 9}, []int{-4, 4, -4}, impl.Past{X1: 9, X2: 9, Y1: -4, Y2: 4}},
		{impl.Section{A1: -16384}, impl.Past{Y1: 4}, []int{9, 8}, []int{4, 4}, impl.Past{X1: 8, X2: 9, Y1: 4, Y2: 4}},
		{impl.Section{A2: 16384}, impl.Past{Y1: 4, Y2: 3}, []int{9, 8, 7}, []int{-3, -4, 3}, impl.Past{X1: 7, X2: 8, Y1: 3, Y2: -4}},
		{impl.Section{B0: 8192, A1: -8192}, impl.Past{}, []int{8, 0, 0, 0, 0}, []int{4, 2, 1, 0, 0}, impl.Past{E: 8192}},
		{impl.Section{B0: 1}, impl.Past{}, []int{-1, 0, 1}, []int{-1, 0, 1}, impl.Past{X1: 1, Y1: 1}},
		{impl.Section{B0: 1}, impl.Past{}, []int{-1, 0}, []int{-1, 0}, impl.Past{X2: -1, Y2: -1, E: 16383}},
		{impl.Section{B0: 1}, impl.Past{E: 16383}, []int{1}, []int{1}, impl.Past{X1: 1, Y1: 1}},
		{impl.Section{B0: -1}, impl.Past{E: 16383}, []int{16383}, []int{0}, impl.Past{X1: 16383}},
		{impl.Section{B0: -1}, impl.Past{E: 16383}, []int{16384}, []int{-1}, impl.Past{X1: 16384, Y1: -1, E: 16383}},
		{impl.Section{B0: -1}, impl.Past{}, []int{16385}, []int{-2}, impl.Past{X1: 16385, Y1: -2, E: 16383}},
		{impl.Section{B0: 8192}, impl.Past{}, []int{1, 1, 1, -1, -1, -1}, []int{0, 1, 0, 0, -1, 0}, impl.Past{X1: -1, X2: -1, Y2: -1}},
		{impl.Section{B0: 65536}, impl.Past{}, []int{most}, []int{most}, impl.Past{X1: most, Y1: most}},
		{impl.Section{B0: 65536}, impl.Past{}, []int{-most}, []int{-most}, impl.Past{X1: -most, Y1: -most}},
		{impl.Section{B0: 65535}, impl.Past{}, []int{most}, []int{most}, impl.Past{X1: most, Y1: most, E: 15808}},
		{impl.Section{B0: -65535}, impl.Past{}, []int{most}, []int{-most}, impl.Past{X1: most, Y1: -most, E: 576}},
		{impl.Section{B0: 16384}, impl.Past{E: 16383}, []int{most}, []int{most}, impl.Past{X1: most, Y1: most, E: 16383}},
		{impl.Section{B0: 16384, B1: 1}, impl.Past{X1: 1, E: 16383}, []int{most}, []int{most}, impl.Past{X1: most, X2: 1, Y1: most}},
		{impl.Section{B0: 16384, B1: 1}, impl.Past{X1: -1}, []int{-most}, []int{-most}, impl.Past{X1: -most, X2: -1, Y1: -most, E: 16383}},
	} {
		got, behind, ok := impl.Iir(c.s, c.p, c.list)
		holdPast(t, "Iir by hand", got, behind, ok, c.want, c.behind)
		got, behind = iirSlow(c.s, c.p, c.list)
		holdPast(t, "the oracle by hand", got, behind, true, c.want, c.behind)
	}
}

func iirHolds(t *testing.T, s impl.Section, p impl.Past, list []int) {
	t.Helper()
	got, behind, ok := impl.Iir(s, p, list)
	want, wantBehind := iirSlow(s, p, list)
	holdPast(t, "Iir", got, behind, ok, want, wantBehind)
}

func TestFilterIirOfAnySections(t *testing.T) {
	g := formSource(1021)
	for range 300 {
		for _, n := range []int{0, 1, 2, 3, 4, 40} {
			iirHolds(t, g.section(), g.past(maxTap), g.atEnds(maxTap, n))
			iirHolds(t, g.calmSection(), g.past(maxTap), g.signal(maxTap, n))
			iirHolds(t, g.calmSection(), g.past(100), g.signal(100, n))
			iirHolds(t, g.section(), impl.Past{}, g.loud(maxTap, n))
		}
	}
	for range 10 {
		iirHolds(t, g.calmSection(), g.past(maxTap), g.signal(maxTap, maxSignal))
		iirHolds(t, g.section(), g.past(maxTap), g.signal(maxTap, maxSignal))
	}
}

// sectionWith and pastWith put x at one place.
func sectionWith(s impl.Section, place int, x int) impl.Section {
	*[]*int{&s.B0, &s.B1, &s.B2, &s.A1, &s.A2}[place] = x
	return s
}

func pastWith(p impl.Past, place int, x int) impl.Past {
	*[]*int{&p.X1, &p.X2, &p.Y1, &p.Y2, &p.E}[place] = x
	return p
}

func TestFilterIirAtTheLimits(t *testing.T) {
	g := formSource(1022)
	for _, s := range []impl.Section{{}, {B0: 3, B1: -5, B2: 7, A1: -9, A2: 11}, g.section(), g.calmSection()} {
		for _, p := range []impl.Past{{}, {X1: 7, X2: -7, Y1: 9, Y2: -9, E: 100}, g.past(maxTap)} {
			for place := range 5 {
				for _, x := range []int{maxFactor, -maxFactor, maxFactor - 1, 1 - maxFactor} {
					iirHolds(t, sectionWith(s, place, x), p, []int{5, -4, maxTap, -maxTap, 0, 1})
				}
			}
			for place := range 4 {
				for _, x := range []int{maxTap, -maxTap, maxTap - 1, 1 - maxTap} {
					iirHolds(t, s, pastWith(p, place, x), []int{5, -4, maxTap, -maxTap, 0, 1})
				}
			}
			for _, left := range []int{0, 1, 16382, 16383} {
				iirHolds(t, s, pastWith(p, 4, left), []int{0, 5, -4, maxTap, -maxTap, 0, 1})
				iirHolds(t, s, pastWith(p, 4, left), nil)
			}
		}
	}
}

func TestFilterIirThatIsRefused(t *testing.T) {
	good, past := impl.Section{B0: 1, B1: 2, B2: 3, A1: 4, A2: 5}, impl.Past{X1: 1, X2: 2, Y1: 3, Y2: 4, E: 5}
	for _, list := range [][]int{nil, {}, {1}, {1, 2, 3}} {
		for place := range 5 {
			for _, bad := range beyond(maxFactor) {
				got, behind, ok := impl.Iir(sectionWith(good, place, bad), past, list)
				noPast(t, "Iir of no section", got, behind, ok)
			}
		}
		for place := range 4 {
			for _, bad := range append(beyond(maxTap), maxSample, -maxSample, maxSample+1, -maxSample-1) {
				got, behind, ok := impl.Iir(good, pastWith(past, place, bad), list)
				noPast(t, "Iir of no past", got, behind, ok)
			}
		}
		for _, bad := range append(beyond(16383), -1, -2, -16383, -16384) {
			got, behind, ok := impl.Iir(good, pastWith(past, 4, bad), list)
			noPast(t, "Iir with so much left", got, behind, ok)
		}
	}
	for _, list := range noSignals() {
		got, behind, ok := impl.Iir(good, past, list)
		noPast(t, "Iir of no signal", got, behind, ok)
	}
	for _, bad := range append(beyond(maxTap), maxSample, -maxSample) {
		for at := range 4 {
			list := []int{1, 2, 3, 4}
			list[at] = bad
			got, behind, ok := impl.Iir(good, past, list)
			noPast(t, "Iir of a sample beyond", got, behind, ok)
		}
	}
}

func TestFilterIirInPieces(t *testing.T) {
	g := formSource(1023)
	for range 20 {
		for _, s := range []impl.Section{g.section(), g.calmSection()} {
			past, list := g.past(maxTap), g.atEnds(maxTap, 60)
			want, wantBehind, ok := impl.Iir(s, past, list)
			for at := range len(list) + 1 {
				head, between, okHead := impl.Iir(s, past, list[:at])
				tail, behind, okTail := impl.Iir(s, between, list[at:])
				holdPast(t, "Iir in two pieces", slices.Concat(head, tail), behind, ok && okHead && okTail, want, wantBehind)
			}
			told, behind := []int{}, past
			for _, x := range list {
				one, next, okOne := impl.Iir(s, behind, []int{x})
				ok = ok && okOne
				told, behind = append(told, one...), next
			}
			holdPast(t, "Iir sample by sample", told, behind, ok, want, wantBehind)
		}
	}
}

func TestFilterChainByHand(t *testing.T) {
	half := impl.Section{B0: 8192, A1: -8192}
	for _, c := range []struct {
		list         []impl.Section
		signal, want []int
	}{
		{nil, nil, nil}, {[]impl.Section{half}, nil, nil}, {nil, []int{8, 0}, []int{8, 0}}, {[]impl.Section{}, []int{maxTap, -maxTap}, []int{maxTap, -maxTap}},
		{[]impl.Section{{}}, []int{8, 5}, []int{0, 0}}, {[]impl.Section{half}, []int{8, 0, 0, 0, 0}, []int{4, 2, 1, 0, 0}}, {[]impl.Section{half, {B0: 16384}}, []int{8, 0}, []int{4, 2}}, {[]impl.Section{{B0: 16384}, half}, []int{8, 0}, []int{4, 2}},
		{[]impl.Section{half, half}, []int{8, 0, 0, 0, 0}, []int{2, 2, 1, 1, 0}}, {[]impl.Section{half, {B1: -32768}}, []int{8, 0, 0, 0, 0}, []int{0, -8, -4, -2, 0}},
		{[]impl.Section{{B0: 65536}, {B0: 8192}}, []int{maxTap, -maxTap}, []int{maxTap / 2, -maxTap / 2}}, {[]impl.Section{{B0: 8192}, {B0: 65536}}, []int{maxTap, -maxTap}, []int{maxTap, -maxTap}},
	} {
		got, ok := impl.Chain(c.list, c.signal)
		holdSignal(t, "Chain by hand", got, ok, c.want)
		holdSignal(t, "the oracle by hand", chainSlow(c.list, c.signal), true, c.want)
	}
}

func TestFilterChainOfSections(t *testing.T) {
	g := formSource(1024)
	for _, count := range []int{0, 1, 2, 3, 5, maxTaps - 1, maxTaps} {
		for range 5 {
			list := []impl.Section{}
			for range count {
				list = append(list, impl.Section{B0: 16384 + g.within(3000), B1: g.within(3000), B2: g.within(2000), A1: g.within(3000), A2: g.within(2000)})
			}
			for _, n := range []int{0, 1, 2, 3, 60} {
				signal := g.atEnds(maxTap, n)
				got, ok := impl.Chain(list, signal)
				holdSignal(t, "Chain", got, ok, chainSlow(list, signal))
				want, okWant := signal, true
				for _, s := range list {
					next, _, okNext := impl.Iir(s, impl.Past{}, want)
					want, okWant = next, okWant && okNext
				}
				holdSignal(t, "Chain against Iir", got, ok && okWant, want)
			}
		}
	}
	list, signal := []impl.Section{g.section(), g.section(), g.section()}, g.loud(maxTap, maxSignal)
	got, ok := impl.Chain(list, signal)
	holdSignal(t, "Chain of a long signal", got, ok, chainSlow(list, signal))
}

func TestFilterChainThatIsRefused(t *testing.T) {
	plain := impl.Section{B0: 16384}
	for _, n := range []int{maxTaps + 1, maxTaps + 2, 2 * maxTaps, 1000} {
		for _, signal := range [][]int{nil, {}, {1}, {1, 2, 3}} {
			got, ok := impl.Chain(slices.Repeat([]impl.Section{plain}, n), signal)
			noSignal(t, "Chain of too many", got, ok)
			got, ok = impl.Chain(make([]impl.Section, n), signal)
			noSignal(t, "Chain of too many", got, ok)
		}
	}
	for _, bad := range beyond(maxFactor) {
		for place := range 5 {
			for at := range 3 {
				list := []impl.Section{plain, plain, plain}
				list[at] = sectionWith(plain, place, bad)
				for _, signal := range [][]int{nil, {}, {1}, {0, 0}} {
					got, ok := impl.Chain(list, signal)
					noSignal(t, "Chain with a wrong section", got, ok)
				}
			}
		}
	}
	signals := noSignals()
	for _, bad := range append(beyond(maxTap), maxSample, -maxSample) {
		signals = append(signals, []int{bad}, []int{bad, 0, 0}, []int{0, bad, 0}, []int{0, 0, bad})
	}
	for _, signal := range signals {
		for _, list := range [][]impl.Section{nil, {}, {{}}, {plain}, {plain, plain}, make([]impl.Section, maxTaps)} {
			got, ok := impl.Chain(list, signal)
			noSignal(t, "Chain of no signal", got, ok)
		}
	}
}
