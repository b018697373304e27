package tests

import (
	"math"
	"math/rand"
	"testing"

	"loop.example/g01118/impl"
)

// The tests of this file are about promise 3: chains made of others, and runs.

// made fails the test unless a function has returned the chain with the given
// weights, or ErrLimit if this would not be valid.
func made(t *testing.T, name string, states, total int64, weight func(s, u int64) int64, got impl.Chain, gotCode int64) {
	t.Helper()
	if states > impl.MaxStates || total > impl.MaxTotal {
		code(t, name, impl.ErrLimit, got, gotCode)
		return
	}
	want := impl.Chain{States: states, Total: total}
	for s := range states {
		row := []int64{}
		for u := range states {
			row = append(row, weight(s, u))
		}
		want.Weights = append(want.Weights, row)
	}
	if gotCode != impl.OK || !impl.SameChain(got, want) || !impl.ValidChain(got) {
		t.Errorf("%s: got %v and the code %d, want %v", name, got, gotCode, want)
	}
}

// smallChain returns a chain whose Total is small enough to be multiplied.
func smallChain(r *rand.Rand, states int64) impl.Chain {
	return randomChainOf(r, states, 1+r.Int63n(9))
}

func TestLazyChain(t *testing.T) {
	r := rand.New(rand.NewSource(1))
	for total := int64(1); total <= impl.MaxTotal; total++ {
		c := randomChainOf(r, 1+r.Int63n(impl.MaxStates), total)
		d, got := impl.LazyChain(c)
		made(t, "LazyChain", c.States, 2*total, func(s, u int64) int64 {
			if s == u {
				return total + c.Weights[s][u]
			}
			return c.Weights[s][u]
		}, d, got)
	}
	for name, bad := range invalidChains() {
		d, got := impl.LazyChain(bad)
		code(t, name, impl.ErrInvalid, d, got)
	}
}

func TestMixAndThenChain(t *testing.T) {
	r := rand.New(rand.NewSource(2))
	for range 2000 {
		states := 1 + r.Int63n(impl.MaxStates)
		c, d := smallChain(r, states), smallChain(r, states)
		mix, got := impl.MixChains(c, d)
		made(t, "MixChains", states, 2*c.Total*d.Total, func(s, u int64) int64 {
			return c.Weights[s][u]*d.Total + d.Weights[s][u]*c.Total
		}, mix, got)
		then, got := impl.ThenChain(c, d)
		made(t, "ThenChain", states, c.Total*d.Total, func(s, u int64) int64 {
			sum := int64(0)
			for between := range states {
				sum += c.Weights[s][between] * d.Weights[between][u]
			}
			return sum
		}, then, got)
		if got == impl.OK {
			p := randomSpread(r, states, 30)
			first, _ := impl.SpreadAfter(c, p, 1)
			both, _ := impl.SpreadAfter(d, first, 1)
			after, _ := impl.SpreadAfter(then, p, 1)
			same(t, "one step and then the other", after, both)
		}
	}
	one, full := randomChainOf(r, 2, 1), randomChainOf(r, 2, impl.MaxTotal)
	then, got := impl.ThenChain(one, full)
	code(t, "a total of 60", impl.OK, then, got)
	then, got = impl.ThenChain(full, full)
	code(t, "a total of 3600", impl.ErrLimit, then, got)
	mix, got := impl.MixChains(randomChainOf(r, 2, 30), one)
	code(t, "twice 30", impl.OK, mix, got)
	mix, got = impl.MixChains(randomChainOf(r, 2, 31), one)
	code(t, "twice 31", impl.ErrLimit, mix, got)
}

func TestSkipChain(t *testing.T) {
	r := rand.New(rand.NewSource(3))
	for range 300 {
		c := randomChainOf(r, 1+r.Int63n(impl.MaxStates), 1+r.Int63n(4))
		k := r.Int63n(impl.MaxSteps + 1)
		if c.Total > 1 {
			k %= 7
		}
		d, got := impl.SkipChain(c, k)
		total := int64(math.Pow(float64(c.Total), float64(k)))
		made(t, "SkipChain", c.States, total, func(s, u int64) int64 {
			x := chanceBetween(c, s, u, k)
			return x.Num().Int64() * (total / x.Denom().Int64())
		}, d, got)
	}
	c := randomChainOf(r, 3, impl.MaxTotal)
	d, got := impl.SkipChain(c, 0)
	same(t, "no steps", impl.ChainText(d), "chain 3 1\nfrom 1 0 0\nfrom 0 1 0\nfrom 0 0 1\n")
	same(t, "code", got, int64(impl.OK))
	d, got = impl.SkipChain(c, 1)
	same(t, "one step", impl.SameChain(c, d) && got == impl.OK, true)
	for k := int64(2); k <= impl.MaxSteps; k++ {
		d, got = impl.SkipChain(c, k)
		code(t, "a long total", impl.ErrLimit, d, got)
	}
	cycle := readChain(t, "chain 3 1\nfrom 0 1 0\nfrom 0 0 1\nfrom 1 0 0\n")
	d, got = impl.SkipChain(cycle, impl.MaxSteps)
	same(t, "40 steps", impl.SameChain(d, cycle) && got == impl.OK, true)
}

func TestBesideChain(t *testing.T) {
	r := rand.New(rand.NewSource(4))
	for range 2000 {
		c, d := smallChain(r, 1+r.Int63n(4)), smallChain(r, 1+r.Int63n(4))
		e, got := impl.BesideChain(c, d)
		n := d.States
		made(t, "BesideChain", c.States*n, c.Total*d.Total, func(s, u int64) int64 {
			return c.Weights[s/n][u/n] * d.Weights[s%n][u%n]
		}, e, got)
	}
	six, one := randomChainOf(r, 6, impl.MaxTotal), randomChainOf(r, 1, 1)
	e, got := impl.BesideChain(six, one)
	same(t, "beside one", impl.SameChain(e, six) && got == impl.OK, true)
	e, got = impl.BesideChain(one, six)
	same(t, "one beside", impl.SameChain(e, six) && got == impl.OK, true)
	e, got = impl.BesideChain(six, six)
	code(t, "36 states", impl.ErrLimit, e, got)
}

func TestMadeErrors(t *testing.T) {
	r := rand.New(rand.NewSource(5))
	two, three := randomChainOf(r, 2, 1), randomChainOf(r, 3, 1)
	full2, full3 := randomChainOf(r, 2, impl.MaxTotal), randomChainOf(r, 3, impl.MaxTotal)
	for name, bad := range invalidChains() {
		for _, other := range []impl.Chain{two, full3, bad} {
			for _, both := range [][2]impl.Chain{{bad, other}, {other, bad}} {
				d, got := impl.MixChains(both[0], both[1])
				code(t, name, impl.ErrInvalid, d, got)
				d, got = impl.ThenChain(both[0], both[1])
				code(t, name, impl.ErrInvalid, d, got)
				d, got = impl.BesideChain(both[0], both[1])
				code(t, name, impl.ErrInvalid, d, got)
			}
		}
		for _, k := range []int64{-1, 0, 1, 41} {
			d, got := impl.SkipChain(bad, k)
			code(t, name, impl.ErrInvalid, d, got)
		}
	}
	for _, both := range [][2]impl.Chain{{two, three}, {three, two}, {full2, full3}, {full3, two}} {
		d, got := impl.MixChains(both[0], both[1])
		code(t, "MixChains", impl.ErrRange, d, got)
		d, got = impl.ThenChain(both[0], both[1])
		code(t, "ThenChain", impl.ErrRange, d, got)
	}
	for _, k := range []int64{-1, impl.MaxSteps + 1, math.MaxInt64, math.MinInt64} {
		for _, c := range []impl.Chain{two, full2} {
			d, got := impl.SkipChain(c, k)
			code(t, "SkipChain", impl.ErrRange, d, got)
		}
	}
}

func TestIsEven(t *testing.T) {
	r := rand.New(rand.NewSource(6))
	evens := 0
	for range 2000 {
		c := randomChainOf(r, 1+r.Int63n(3), 1+r.Int63n(4))
		p, _ := impl.EvenSpread(c.States)
		after, _ := impl.SpreadAfter(c, p, 1)
		isSame := fracTexts(p) == fracTexts(after)
		even, got := impl.IsEven(c)
		same(t, "IsEven", even, isSame)
		same(t, "code", got, int64(impl.OK))
		if even {
			evens++
		}
	}
	if evens == 0 || evens == 2000 {
		t.Error("all chains are alike")
	}
	even, got := impl.IsEven(readChain(t, "chain 3 3\nfrom 1 2 0\nfrom 1 1 1\nfrom 1 0 2\n"))
	same(t, "even", even && got == impl.OK, true)
	even, got = impl.IsEven(readChain(t, "chain 3 3\nfrom 1 2 0\nfrom 1 0 2\nfrom 1 2 0\n"))
	same(t, "only the first column", even || got != impl.OK, false)
	for name, bad := range invalidChains() {
		even, got := impl.IsEven(bad)
		code(t, name, impl.ErrInvalid, even, got)
	}
}

func TestStepByDraw(t *testing.T) {
	r := rand.New(rand.NewSource(7))
	for range 500 {
		c := randomChain(r)
		for s, row := range c.Weights {
			counts := make([]int64, c.States)
			last := int64(0)
			for draw := range c.Total {
				to, got := impl.StepByDraw(c, int64(s), draw)
				code(t, "StepByDraw", impl.OK, to, got)
				same(t, "ascending", to >= last, true)
				counts[to]++
				last = to
			}
			same(t, "as often as its weight", counts, row)
		}
		for _, bad := range [][2]int64{{-1, 0}, {c.States, 0}, {0, -1}, {0, c.Total}, {math.MaxInt64, 0}, {0, math.MaxInt64}, {math.MinInt64, math.MinInt64}} {
			to, got := impl.StepByDraw(c, bad[0], bad[1])
			code(t, "StepByDraw", impl.ErrRange, to, got)
		}
	}
	for name, bad := range invalidChains() {
		for _, s := range []int64{-1, 0, 1} {
			to, got := impl.StepByDraw(bad, s, s)
			code(t, name, impl.ErrInvalid, to, got)
		}
	}
}

func TestRunByDraws(t *testing.T) {
	r := rand.New(rand.NewSource(8))
	for range 500 {
		c := randomChain(r)
		s := r.Int63n(c.States)
		draws := make([]int64, r.Intn(impl.MaxDraws+1))
		want := []int64{s}
		for i := range draws {
			draws[i] = r.Int63n(c.Total)
			to, _ := impl.StepByDraw(c, want[i], draws[i])
			want = append(want, to)
		}
		run, got := impl.RunByDraws(c, s, draws)
		same(t, "run", run, want)
		same(t, "code", got, int64(impl.OK))
	}
	c := readChain(t, exampleText)
	for _, none := range [][]int64{nil, {}} {
		run, got := impl.RunByDraws(c, 1, none)
		same(t, "no draws", run, []int64{1})
		same(t, "code", got, int64(impl.OK))
	}
	run, got := impl.RunByDraws(c, 0, make([]int64, impl.MaxDraws))
	same(t, "all draws", len(run), impl.MaxDraws+1)
	same(t, "code", got, int64(impl.OK))
}

func TestRunByDrawsErrors(t *testing.T) {
	c := readChain(t, exampleText)
	lastBad := make([]int64, impl.MaxDraws)
	lastBad[impl.MaxDraws-1] = 3
	for _, one := range []struct {
		s     int64
		draws []int64
	}{
		{-1, nil}, {2, nil}, {math.MaxInt64, []int64{0}}, {0, []int64{3}}, {0, []int64{-1}}, {0, []int64{0, 1, 2, math.MaxInt64}}, {0, []int64{math.MinInt64, 0}},
		{0, make([]int64, impl.MaxDraws+1)}, {0, make([]int64, 1000000)}, {0, lastBad},
	} {
		run, got := impl.RunByDraws(c, one.s, one.draws)
		code(t, "RunByDraws", impl.ErrRange, run, got)
		for name, bad := range invalidChains() {
			run, got := impl.RunByDraws(bad, one.s, one.draws)
			code(t, name, impl.ErrInvalid, run, got)
		}
	}
}

// TestExampleOfChapter1 is the example of the document.
func TestExampleOfChapter1(t *testing.T) {
	c := readChain(t, "chain 2 3\nfrom 1 2\nfrom 3 0\n")
	x, got := impl.ChanceAfter(c, 0, 0, 2)
	same(t, "two steps", impl.FractionText(x), "7/9")
	same(t, "code", got, int64(impl.OK))
	d, got := impl.SkipChain(c, 2)
	same(t, "SkipChain", impl.ChainText(d), "chain 2 9\nfrom 7 2\nfrom 3 6\n")
	same(t, "code", got, int64(impl.OK))
	s, got := impl.StepByDraw(c, 0, 1)
	same(t, "StepByDraw", []int64{s, got}, []int64{1, impl.OK})
	run, got := impl.RunByDraws(c, 0, []int64{0, 2, 1})
	same(t, "RunByDraws", run, []int64{0, 0, 1, 0})
	same(t, "code", got, int64(impl.OK))
}
