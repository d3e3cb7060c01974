package tests

import (
	"runtime"
	"slices"
	"sync"
	"testing"

	"loop.example/g00043/impl"
)

// Promise 23: a plan tells the same by any number of workers, many times.
func TestPlayManyByAllWorkers(t *testing.T) {
	manyRuns(2131, func(g *formSource, p impl.Plan, inputs [][]int) {
		rounds := g.below(5)
		want, ok := impl.Play(p, inputs, rounds)
		for workers := 1; workers <= maxWorkers; workers++ {
			got, right := impl.PlayMany(p, inputs, rounds, workers)
			if ok {
				holdRows(t, "PlayMany", got, right, want)
			} else {
				noRows(t, "PlayMany of what does not run", got, right)
			}
		}
	})
}

// fan has many nodes that can fire at once, whose wires come together.
func fan() impl.Plan {
	p := planOf(append(sources(1), impl.Node{Name: "up", Kind: impl.NodeUp, N: 8}), linked(0, 1))
	for at := range 8 {
		p.Nodes = append(p.Nodes, impl.Node{Name: "gain" + string(rune('a'+at)), Kind: impl.NodeGain, N: at - 3})
		p.Links = append(p.Links, linked(1, 2+at))
	}
	for at := range 8 {
		p.Nodes = append(p.Nodes, impl.Node{Name: "add" + string(rune('a'+at)), Kind: impl.NodeAdd})
		p.Links = append(p.Links, linked(2+at, 10+at), linked(2+(at+1)%8, 10+at))
	}
	p.Nodes = append(p.Nodes, impl.Node{Name: "late", Kind: impl.NodeDelay, N: 3}, impl.Node{Name: "out", Kind: impl.NodeOut})
	p.Links = append(p.Links, linked(10, 18), linked(18, 19))
	return p
}

func TestPlayManyTimes(t *testing.T) {
	p, in := fan(), [][]int{upTo(20)}
	runHolds(t, p, in, 20, 4)
	want, _ := playSlow(p, in, 20)
	for again := range 200 {
		got, ok := impl.PlayMany(p, in, 20, 1+again%maxWorkers)
		holdRows(t, "PlayMany, again", got, ok, want)
	}
}

// By one worker and by sixteen, as often as may be fired.
func TestPlayManyOfMostFires(t *testing.T) {
	p := wideRun(49, 8, 6)
	in := quiet(p)
	in[0] = upTo(60)
	want, ok := playSlow(p, in, 50)
	if !ok {
		t.Fatal("it does not run")
	}
	for _, workers := range []int{1, 2, 7, maxWorkers} {
		got, ok := impl.PlayMany(p, in, 50, workers)
		holdRows(t, "PlayMany of most fires", got, ok, want)
		got, ok = impl.PlayMany(p, in, 51, workers)
		noRows(t, "PlayMany of too many fires", got, ok)
	}
}

func TestPlayManyOfWrongWorkers(t *testing.T) {
	plans := append(fewPlans(), fan(), between(impl.NodeUp, 2), impl.Plan{}, planOf(sources(21)), adders(2))
	for _, workers := range anyWorkers() {
		for _, p := range plans {
			for _, rounds := range []int{0, 1, -1, maxTurns + 1} {
				got, ok := impl.PlayMany(p, quiet(p), rounds, workers)
				noRows(t, "PlayMany by wrong workers", got, ok)
				got, ok = impl.PlayMany(p, append(quiet(p), nil), rounds, workers)
				noRows(t, "PlayMany by wrong workers", got, ok)
				noCounts(t, p, rounds, workers)
			}
		}
	}
	for _, workers := range []int{1, 2, maxWorkers} {
		runHolds(t, fan(), [][]int{{5}}, 2, workers)
	}
}

// What the plan, its inputs and its rounds are wrong in counts by every number of workers.
func TestPlayManyOfWrongRuns(t *testing.T) {
	p := between(impl.NodeUp, 2)
	for workers := 0; workers <= maxWorkers+1; workers++ {
		for _, in := range [][][]int{nil, {nil, nil}, {{maxSample + 1}}, {make([]int, maxSignal+1)}} {
			got, ok := impl.PlayMany(p, in, 1, workers)
			noRows(t, "PlayMany of wrong inputs", got, ok)
		}
		for _, rounds := range []int{-1, maxTurns + 1} {
			got, ok := impl.PlayMany(p, [][]int{{1}}, rounds, workers)
			noRows(t, "PlayMany of wrong rounds", got, ok)
		}
		got, ok := impl.PlayMany(adders(2), nil, 1, workers)
		noRows(t, "PlayMany of what is stuck", got, ok)
		got, ok = impl.PlayMany(planOf(sources(21)), make([][]int, 21), 1, workers)
		noRows(t, "PlayMany of no plan", got, ok)
	}
}

// No goroutine goes on behind a call, whether it told something or was refused.
func TestRunNoGoroutineGoesOn(t *testing.T) {
	ahead := runtime.NumGoroutine()
	for _, p := range append(fewPlans(), fan(), adders(2), impl.Plan{}, wideRun(49, 8, 6)) {
		for _, workers := range []int{1, 2, maxWorkers, maxWorkers + 1, 0, -1} {
			for _, rounds := range []int{0, 1, 5, maxTurns, maxTurns + 1} {
				impl.PlayMany(p, quiet(p), rounds, workers)
				impl.PlayMany(p, nil, rounds, workers)
				impl.Tally(p, rounds, workers)
				impl.Play(p, quiet(p), rounds)
				impl.Probe(p, quiet(p), rounds, 0)
				impl.PlayBy(p, quiet(p), []int{0, 1})
				if left := leftBehind(ahead); left > 0 {
					t.Fatalf("%d goroutines go on behind calls with %v, %d rounds and %d workers", left, p, rounds, workers)
				}
			}
		}
	}
}

// Runs are asked by several at once.
func TestRunsAskedAtOnce(t *testing.T) {
	var all sync.WaitGroup
	for at, p := range append(fewPlans(), fan(), between(impl.NodeFold, 2)) {
		in := quiet(p)
		for door := range in {
			in[door] = []int{at, door, -7}
		}
		want, ok := playSlow(p, in, 3)
		for again := range 4 {
			all.Go(func() {
				for range 20 {
					got, right := impl.PlayMany(p, in, 3, 1+(at+again)%maxWorkers)
					told, rightToo := impl.Play(p, in, 3)
					if right != ok || rightToo != ok || !slices.EqualFunc(got, want, slices.Equal[[]int]) || !slices.EqualFunc(told, want, slices.Equal[[]int]) {
						t.Errorf("runs that are asked at once are told otherwise: %v, %v, not %v", got, told, want)
					}
				}
			})
		}
	}
	all.Wait()
}
