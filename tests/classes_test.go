package tests

import (
	"math/rand"
	"slices"
	"testing"

	"loop.example/g01118/impl"
)

// The tests of this file are about promise 4: classes and periods.

func TestCanReach(t *testing.T) {
	r := rand.New(rand.NewSource(21))
	for _, c := range chainsOfAllKinds(r, 1000) {
		for s, row := range leads(c) {
			want := []int64{}
			for u, can := range row {
				if can {
					want = append(want, int64(u))
				}
			}
			set, got := impl.CanReach(c, int64(s))
			same(t, "reached", set, want)
			same(t, "code", got, int64(impl.OK))
		}
	}
	line := readChain(t, "chain 6 1\nfrom 0 1 0 0 0 0\nfrom 0 0 1 0 0 0\nfrom 0 0 0 1 0 0\nfrom 0 0 0 0 1 0\nfrom 0 0 0 0 0 1\nfrom 0 0 0 0 0 1\n")
	for s := range int64(6) {
		set, got := impl.CanReach(line, s)
		same(t, "behind it on the line", set, []int64{0, 1, 2, 3, 4, 5}[s:])
		same(t, "code", got, int64(impl.OK))
	}
	back, _ := impl.RenameStates(line, []int64{5, 4, 3, 2, 1, 0})
	set, _ := impl.CanReach(back, 4)
	same(t, "the line back", set, []int64{0, 1, 2, 3, 4})
}

func TestClasses(t *testing.T) {
	r := rand.New(rand.NewSource(22))
	counts := map[int]int{}
	outside := 0
	for _, c := range chainsOfAllKinds(r, 1500) {
		can := leads(c)
		want, next := []int64{}, int64(0)
		for s := range c.States {
			number := next
			for u := range s {
				if can[s][u] && can[u][s] {
					number = want[u]
				}
			}
			if number == next {
				next++
			}
			want = append(want, number)
		}
		numbers, got := impl.ClassesOf(c)
		same(t, "classes", numbers, want)
		same(t, "code", got, int64(impl.OK))
		closed, got := impl.ClosedClasses(c)
		same(t, "closed classes", closed, closedOf(c))
		same(t, "code", got, int64(impl.OK))
		same(t, "in order", slices.IsSortedFunc(closed, slices.Compare[[]int64]) && len(closed) > 0, true)
		joined, got := impl.IsConnected(c)
		same(t, "connected", joined, isConnected(c))
		same(t, "code", got, int64(impl.OK))
		counts[len(closed)]++
		if len(slices.Concat(closed...)) < int(c.States) {
			outside++
		}
	}
	if len(counts) < 6 || counts[1] < 100 || counts[2] < 100 || counts[3] < 20 || outside < 100 {
		t.Error("too few kinds of chains", counts, outside)
	}
}

func TestClassesOfOne(t *testing.T) {
	c := readChain(t, "chain 1 7\nfrom 7\n")
	set, got := impl.CanReach(c, 0)
	same(t, "reached", set, []int64{0})
	same(t, "code", got, int64(impl.OK))
	numbers, got := impl.ClassesOf(c)
	same(t, "classes", numbers, []int64{0})
	same(t, "code", got, int64(impl.OK))
	closed, got := impl.ClosedClasses(c)
	same(t, "closed", closed, [][]int64{{0}})
	same(t, "code", got, int64(impl.OK))
	joined, got := impl.IsConnected(c)
	same(t, "connected", joined && got == impl.OK, true)
	period, got := impl.PeriodOf(c)
	same(t, "period", []int64{period, got}, []int64{1, impl.OK})
}

// TestClassNumbers has a class whose states have others between them.
func TestClassNumbers(t *testing.T) {
	c := readChain(t, "chain 5 2\nfrom 0 0 0 0 2\nfrom 0 1 1 0 0\nfrom 0 0 1 1 0\nfrom 0 2 0 0 0\nfrom 1 1 0 0 0\n")
	numbers, _ := impl.ClassesOf(c)
	same(t, "classes", numbers, []int64{0, 1, 1, 1, 0})
	closed, _ := impl.ClosedClasses(c)
	same(t, "closed", closed, [][]int64{{1, 2, 3}})
	d := readChain(t, "chain 6 1\nfrom 0 0 0 0 0 1\nfrom 0 0 0 1 0 0\nfrom 0 0 1 0 0 0\nfrom 0 1 0 0 0 0\nfrom 0 0 0 0 1 0\nfrom 1 0 0 0 0 0\n")
	numbers, _ = impl.ClassesOf(d)
	same(t, "classes", numbers, []int64{0, 1, 2, 1, 3, 0})
	closed, _ = impl.ClosedClasses(d)
	same(t, "closed", closed, [][]int64{{0, 5}, {1, 3}, {2}, {4}})
}

func divisorOf(a, b int64) int64 {
	for b > 0 {
		a, b = b, a%b
	}
	return a
}

// periodOf looks at so many steps that all round trips are among them.
func periodOf(c impl.Chain) int64 {
	period := int64(0)
	for s := range c.States {
		in := make([]bool, c.States)
		in[s] = true
		for steps := int64(1); steps <= 80; steps++ {
			next := make([]bool, c.States)
			for u := range in {
				for v, weight := range c.Weights[u] {
					next[v] = next[v] || in[u] && weight > 0
				}
			}
			in = next
			if in[s] {
				period = divisorOf(period, steps)
			}
		}
	}
	return period
}

func TestPeriodOf(t *testing.T) {
	r := rand.New(rand.NewSource(23))
	seen := map[int64]int{}
	for _, c := range chainsOfAllKinds(r, 2000) {
		period, got := impl.PeriodOf(c)
		if !isConnected(c) {
			code(t, "PeriodOf", impl.ErrState, period, got)
			continue
		}
		same(t, "period", []int64{period, got}, []int64{periodOf(c), impl.OK})
		seen[period]++
	}
	for period := int64(1); period <= impl.MaxStates; period++ {
		if seen[period] == 0 {
			t.Error("no chain with the period", period)
		}
	}
	for _, one := range []struct {
		text string
		want int64
	}{
		{"chain 6 2\nfrom 0 1 0 1 0 0\nfrom 0 0 2 0 0 0\nfrom 2 0 0 0 0 0\nfrom 0 0 0 0 2 0\nfrom 0 0 0 0 0 2\nfrom 2 0 0 0 0 0\n", 1},
		{"chain 5 2\nfrom 0 1 0 1 0\nfrom 0 0 2 0 0\nfrom 2 0 0 0 0\nfrom 0 0 0 0 2\nfrom 2 0 0 0 0\n", 3},
		{"chain 4 2\nfrom 0 1 0 1\nfrom 0 0 2 0\nfrom 2 0 0 0\nfrom 2 0 0 0\n", 1},
		{"chain 5 2\nfrom 0 2 0 0 0\nfrom 0 0 1 1 0\nfrom 2 0 0 0 0\nfrom 0 0 0 0 2\nfrom 2 0 0 0 0\n", 1},
		{"chain 4 2\nfrom 0 1 0 1\nfrom 1 0 1 0\nfrom 0 1 0 1\nfrom 1 0 1 0\n", 2},
		{"chain 4 4\nfrom 0 4 0 0\nfrom 0 0 4 0\nfrom 0 0 0 4\nfrom 3 0 0 1\n", 1},
	} {
		period, got := impl.PeriodOf(readChain(t, one.text))
		same(t, one.text, []int64{period, got}, []int64{one.want, impl.OK})
	}
}

func TestClassErrors(t *testing.T) {
	for name, bad := range invalidChains() {
		for _, s := range []int64{0, -1, 7} {
			set, got := impl.CanReach(bad, s)
			code(t, name, impl.ErrInvalid, set, got)
		}
		numbers, got := impl.ClassesOf(bad)
		code(t, name, impl.ErrInvalid, numbers, got)
		closed, got := impl.ClosedClasses(bad)
		code(t, name, impl.ErrInvalid, closed, got)
		joined, got := impl.IsConnected(bad)
		code(t, name, impl.ErrInvalid, joined, got)
		period, got := impl.PeriodOf(bad)
		code(t, name, impl.ErrInvalid, period, got)
	}
	for _, s := range badStates() {
		set, got := impl.CanReach(readChain(t, twoEnds), s)
		code(t, "CanReach", impl.ErrRange, set, got)
	}
	period, got := impl.PeriodOf(readChain(t, twoEnds))
	code(t, "two ends", impl.ErrState, period, got)
	period, got = impl.PeriodOf(readChain(t, "chain 2 2\nfrom 1 1\nfrom 0 2\n"))
	code(t, "one end", impl.ErrState, period, got)
}
