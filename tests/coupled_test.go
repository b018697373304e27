package tests

import (
	"math"
	"math/big"
	"math/rand"
	"slices"
	"testing"

	"loop.example/g01118/impl"
)

// The tests of this file are about promise 9: coupled runs go as the chain goes.

func TestValidCoupled(t *testing.T) {
	for _, one := range couplingsOfAllKinds(t, 101, 60) {
		same(t, one.name, impl.ValidCoupled(one.c, one.m), true)
		same(t, one.name+": goes as the chain", isFor(one.c, one.m), true)
	}
	c := readChain(t, coupledChain)
	for name, bad := range invalidCoupled() {
		same(t, name, impl.ValidCoupled(c, bad), false)
	}
	best := bestFor(t, c)
	for name, bad := range invalidChains() {
		same(t, name, impl.ValidCoupled(bad, best), false)
		same(t, name, impl.ValidCoupled(bad, impl.Coupled(bad)), false)
		same(t, name, impl.ValidCoupled(bad, impl.Coupled{}), false)
	}
	// A chain and one coupled chain of it with all that is in proportion.
	for _, factor := range []int64{1, 2, 3, 1200} {
		m := impl.Coupled{States: 2, Total: 3 * factor}
		for _, row := range best.Weights {
			more := []int64{}
			for _, weight := range row {
				more = append(more, factor*weight)
			}
			m.Weights = append(m.Weights, more)
		}
		same(t, "in proportion", impl.ValidCoupled(c, m), true)
	}
}

// TestValidCoupledForOthers has coupled chains that are for another chain.
func TestValidCoupledForOthers(t *testing.T) {
	r := rand.New(rand.NewSource(102))
	others := 0
	for range 600 {
		states, total := 1+r.Int63n(3), 1+r.Int63n(4)
		c, d := randomChainOf(r, states, total), randomChainOf(r, states, total)
		m := randomCoupled(r, c)
		alike := impl.SameChain(c, d)
		same(t, "for another chain", impl.ValidCoupled(d, m), alike)
		if !alike {
			others++
		}
		lazy, _ := impl.LazyChain(c)
		same(t, "for the lazy chain", impl.ValidCoupled(lazy, m), impl.SameChain(c, stayOf(states, total)))
	}
	if others < 100 {
		t.Error("too few other chains", others)
	}
}

// stayOf returns a chain that stays where it is.
func stayOf(states, total int64) impl.Chain {
	c := impl.Chain{States: states, Total: total}
	for s := range states {
		row := make([]int64, states)
		row[s] = total
		c.Weights = append(c.Weights, row)
	}
	return c
}

// TestValidCoupledMoved moves weights in one row from one pair to another one.
func TestValidCoupledMoved(t *testing.T) {
	r := rand.New(rand.NewSource(103))
	kept := 0
	for range 2000 {
		c := randomChainOf(r, 1+r.Int63n(impl.MaxMet), 1+r.Int63n(30))
		m := randomCoupled(r, c)
		row := r.Intn(len(m.Weights))
		// Two moves with opposite sides leave both runs as they are.
		s, u, v, w := r.Int63n(c.States), r.Int63n(c.States), r.Int63n(c.States), r.Int63n(c.States)
		from, to := pairNumber(m, s, u), pairNumber(m, v, w)
		n := withCell(m, row, 0, m.Weights[row][0])
		if r.Intn(2) == 0 {
			n.Weights[row][pairNumber(m, s, w)]++
			n.Weights[row][pairNumber(m, v, u)]++
			n.Weights[row][to]--
		} else {
			n.Weights[row][to]++
		}
		n.Weights[row][from]--
		isGood := n.Weights[row][from] >= 0 && n.Weights[row][to] >= 0 && isFor(c, n)
		same(t, "moved", impl.ValidCoupled(c, n), isGood)
		same(t, "not moved", impl.ValidCoupled(c, m), true)
		if isGood && !impl.SameCoupled(m, n) {
			kept++
		}
	}
	if kept < 30 {
		t.Error("too few moves that leave both runs as they are", kept)
	}
}

func TestSameCoupled(t *testing.T) {
	rows := func(rows ...[]int64) [][]int64 { return rows }
	list := []impl.Coupled{
		{}, {States: 1}, {Total: 1}, {States: 1, Total: 1, Weights: rows([]int64{1})}, {States: 1, Total: 1, Weights: rows([]int64{1}, []int64{1})},
		{States: 1, Total: 1, Weights: rows([]int64{1, 1})}, {States: 1, Total: 1, Weights: rows([]int64{2})}, {States: 1, Total: 1, Weights: rows(nil)},
		{States: 2, Total: 1, Weights: rows([]int64{1})}, {States: 1, Total: 2, Weights: rows([]int64{1})}, {States: 1, Total: 1, Weights: rows(nil, []int64{1})},
		{States: 1, Total: 1, Weights: rows([]int64{1}, nil)}, {States: math.MaxInt64, Total: -1, Weights: make([][]int64, 1000000)},
	}
	for i, m := range list {
		for j, n := range list {
			same(t, "SameCoupled", impl.SameCoupled(m, n), i == j)
		}
	}
	same(t, "nil and empty", impl.SameCoupled(impl.Coupled{Weights: rows()}, impl.Coupled{}), true)
	same(t, "nil and empty", impl.SameCoupled(impl.Coupled{Weights: rows([]int64{})}, impl.Coupled{Weights: rows(nil)}), true)
	for _, one := range couplingsOfAllKinds(t, 104, 15) {
		same(t, one.name, impl.SameCoupled(one.m, withCell(one.m, 0, 0, one.m.Weights[0][0])), true)
		last := len(one.m.Weights) - 1
		same(t, one.name, impl.SameCoupled(one.m, withCell(one.m, last, last, one.m.Weights[last][last]+1)), false)
	}
}

// bestParts joins two rows by laying out what is left of them piece by piece.
func bestParts(left, right []int64) [][]int64 {
	parts := flatCosts(len(left), len(right), 0)
	pieces := [2][]int{}
	for u := range left {
		parts[u][u] = min(left[u], right[u])
		pieces[0] = append(pieces[0], slices.Repeat([]int{u}, int(left[u]-parts[u][u]))...)
		pieces[1] = append(pieces[1], slices.Repeat([]int{u}, int(right[u]-parts[u][u]))...)
	}
	for i, u := range pieces[0] {
		parts[u][pieces[1][i]]++
	}
	return parts
}

// stairParts joins the rows of two states by all draws.
func stairParts(t *testing.T, c impl.Chain, s, u int64) [][]int64 {
	t.Helper()
	parts := flatCosts(int(c.States), int(c.States), 0)
	for draw := range c.Total {
		left, one := impl.StepByDraw(c, s, draw)
		right, two := impl.StepByDraw(c, u, draw)
		same(t, "codes", []int64{one, two}, []int64{impl.OK, impl.OK})
		parts[left][right]++
	}
	return parts
}

func apartParts(left, right []int64) [][]int64 {
	parts := flatCosts(len(left), len(right), 0)
	for v, x := range left {
		for w, y := range right {
			parts[v][w] = x * y
		}
	}
	return parts
}

func TestMadeCoupled(t *testing.T) {
	r := rand.New(rand.NewSource(105))
	chains := append(smallChains(r, 150), randomChainOf(r, impl.MaxMet, impl.MaxTotal), randomChainOf(r, 1, impl.MaxTotal))
	for _, c := range chains {
		apart, got := impl.ApartCoupled(c)
		same(t, "apart", apart, coupledOf(c, c.Total*c.Total, func(s, u int64) [][]int64 { return apartParts(c.Weights[s], c.Weights[u]) }))
		same(t, "apart: code", got, int64(impl.OK))
		stair, got := impl.StairCoupled(c)
		same(t, "stair", stair, coupledOf(c, c.Total, func(s, u int64) [][]int64 { return stairParts(t, c, s, u) }))
		same(t, "stair: code", got, int64(impl.OK))
		best, got := impl.BestCoupled(c)
		same(t, "best", best, coupledOf(c, c.Total, func(s, u int64) [][]int64 { return bestParts(c.Weights[s], c.Weights[u]) }))
		same(t, "best: code", got, int64(impl.OK))
		for _, m := range []impl.Coupled{apart, stair, best} {
			same(t, "valid", impl.ValidCoupled(c, m), true)
			same(t, "goes as the chain", isFor(c, m), true)
		}
	}
}

func TestStickyCoupled(t *testing.T) {
	r := rand.New(rand.NewSource(106))
	for _, c := range smallChains(r, 60) {
		for _, one := range couplingsOf(t, r, c) {
			want := withCell(one.m, 0, 0, one.m.Weights[0][0])
			for s := range c.States {
				row := make([]int64, c.States*c.States)
				for u := range c.States {
					row[pairNumber(one.m, u, u)] = c.Weights[s][u] * one.m.Total / c.Total
				}
				want.Weights[pairNumber(one.m, s, s)] = row
			}
			sticky, got := impl.StickyCoupled(c, one.m)
			same(t, one.name, sticky, want)
			same(t, one.name+": code", got, int64(impl.OK))
			same(t, one.name+": valid", impl.ValidCoupled(c, sticky), true)
			again, _ := impl.StickyCoupled(c, sticky)
			same(t, one.name+": twice", again, sticky)
		}
		best := bestFor(t, c)
		sticky, _ := impl.StickyCoupled(c, best)
		same(t, "the best one is sticky", sticky, best)
	}
}

// TestStickyCoupledWhole has chains whose Total does not divide that of the
// coupled chain: the numbers are whole nevertheless, or it is not valid.
func TestStickyCoupledWhole(t *testing.T) {
	c := readChain(t, "chain 2 4\nfrom 2 2\nfrom 2 2\n")
	half := impl.Coupled{States: 2, Total: 2, Weights: slices.Repeat([][]int64{{0, 1, 1, 0}}, 4)}
	sticky, got := impl.StickyCoupled(c, half)
	together, crossed := []int64{1, 0, 0, 1}, []int64{0, 1, 1, 0}
	same(t, "half", sticky, impl.Coupled{States: 2, Total: 2, Weights: [][]int64{together, crossed, crossed, together}})
	same(t, "half: code", got, int64(impl.OK))
	for total := int64(1); total < 12; total++ {
		m := impl.Coupled{States: 2, Total: total}
		for range 4 {
			m.Weights = append(m.Weights, []int64{total / 2, 0, 0, total - total/2})
		}
		sticky, got = impl.StickyCoupled(c, m)
		if total%2 == 0 {
			same(t, "whole", sticky, m)
			same(t, "whole: code", got, int64(impl.OK))
		} else {
			code(t, "not whole", impl.ErrInvalid, sticky, got)
		}
	}
}

func TestMadeCoupledErrors(t *testing.T) {
	r := rand.New(rand.NewSource(107))
	makers := map[string]func(impl.Chain) (impl.Coupled, int64){"ApartCoupled": impl.ApartCoupled, "StairCoupled": impl.StairCoupled, "BestCoupled": impl.BestCoupled}
	for name, make := range makers {
		for reason, bad := range invalidChains() {
			m, got := make(bad)
			code(t, name+": "+reason, impl.ErrInvalid, m, got)
		}
		for states := int64(1); states <= impl.MaxStates; states++ {
			m, got := make(randomChainOf(r, states, 6))
			want := int64(impl.OK)
			if states > impl.MaxMet {
				want = impl.ErrLimit
			}
			code(t, name, want, m, got)
		}
	}
	c := readChain(t, coupledChain)
	for name, bad := range invalidCoupled() {
		m, got := impl.StickyCoupled(c, bad)
		code(t, name, impl.ErrInvalid, m, got)
	}
	for name, bad := range invalidChains() {
		m, got := impl.StickyCoupled(bad, bestFor(t, c))
		code(t, name, impl.ErrInvalid, m, got)
	}
	for states := int64(impl.MaxMet + 1); states <= impl.MaxStates; states++ {
		large := stayOf(states, 1)
		m := coupledOf(large, 1, func(s, u int64) [][]int64 { return apartParts(large.Weights[s], large.Weights[u]) })
		same(t, "too many states", impl.ValidCoupled(large, m), false)
		sticky, got := impl.StickyCoupled(large, m)
		code(t, "too many states", impl.ErrInvalid, sticky, got)
	}
}

func TestPairStep(t *testing.T) {
	for _, one := range couplingsOfAllKinds(t, 108, 30) {
		m := one.m
		for s := range m.States {
			for u := range m.States {
				counts, last := make([]int64, m.States*m.States), int64(0)
				for draw := range min(m.Total, 400) {
					v, w, got := impl.PairStep(one.c, m, s, u, draw)
					same(t, "code", got, int64(impl.OK))
					number := pairNumber(m, v, w)
					counts[number]++
					same(t, "lower pairs first", number >= last, true)
					last = number
				}
				if m.Total <= 400 {
					same(t, one.name, counts, m.Weights[pairNumber(m, s, u)])
				}
				v, w, got := impl.PairStep(one.c, m, s, u, m.Total-1)
				same(t, "code", got, int64(impl.OK))
				row := m.Weights[pairNumber(m, s, u)]
				same(t, "the last draw", slices.Max(append(row[pairNumber(m, v, w)+1:], 0)), int64(0))
			}
		}
	}
}

// TestPairStepByStair has draws that choose the states of both runs.
func TestPairStepByStair(t *testing.T) {
	r := rand.New(rand.NewSource(109))
	for range 60 {
		c := randomChainOf(r, 1+r.Int63n(impl.MaxMet), 1+r.Int63n(20))
		stair, _ := impl.StairCoupled(c)
		s, u := r.Int63n(c.States), r.Int63n(c.States)
		seen, want := map[[2]int64]int{}, map[[2]int64]int{}
		for draw := range c.Total {
			left, _ := impl.StepByDraw(c, s, draw)
			right, _ := impl.StepByDraw(c, u, draw)
			want[[2]int64{left, right}]++
			v, w, _ := impl.PairStep(c, stair, s, u, draw)
			seen[[2]int64{v, w}]++
		}
		same(t, "pairs", seen, want)
	}
}

func TestJointAfter(t *testing.T) {
	r := rand.New(rand.NewSource(110))
	for _, one := range couplingsOfAllKinds(t, 111, 60) {
		c, m := one.c, one.m
		s, u := r.Int63n(c.States), r.Int63n(c.States)
		for _, steps := range []int64{0, 1, 2, r.Int63n(impl.MaxSteps + 1), impl.MaxSteps} {
			after := ratsAfter(pairChainOf(m), surePair(m, s, u), steps)
			j, got := impl.JointAfter(c, m, s, u, steps)
			isTable(t, one.name, slices.Collect(slices.Chunk(after, int(c.States))), j, got)
			sureLeft, _ := impl.SureSpread(c.States, s)
			sureRight, _ := impl.SureSpread(c.States, u)
			left, _ := impl.SpreadAfter(c, sureLeft, steps)
			right, _ := impl.SpreadAfter(c, sureRight, steps)
			isCoupling(t, one.name, j, left, right)
			if one.name == "apart" && s != u {
				apart, _ := impl.ApartJoint(left, right)
				same(t, "apart stay apart", j, apart)
			}
		}
		j, _ := impl.JointAfter(c, m, s, u, 0)
		same(t, "0 steps", j[s][u], frac("1"))
	}
}

// runCodes calls the functions that are given a pair of states and, perhaps,
// steps, and checks their codes.
func runCodes(t *testing.T, name string, want int64, c impl.Chain, m impl.Coupled, s, u, steps int64) {
	t.Helper()
	j, got := impl.JointAfter(c, m, s, u, steps)
	code(t, name+": JointAfter", want, j, got)
	x, got := impl.NotMetAfter(c, m, s, u, steps)
	code(t, name+": NotMetAfter", want, x, got)
}

// pairCodes calls the functions that are given a pair of states alone.
func pairCodes(t *testing.T, name string, want int64, c impl.Chain, m impl.Coupled, s, u int64) {
	t.Helper()
	v, w, got := impl.PairStep(c, m, s, u, 0)
	code(t, name+": PairStep", want, v, w, got)
	isSure, got := impl.SurelyMeets(c, m, s, u)
	code(t, name+": SurelyMeets", want, isSure, got)
	x, got := impl.ExpectedMeeting(c, m, s, u)
	code(t, name+": ExpectedMeeting", want, x, got)
	runCodes(t, name, want, c, m, s, u, 1)
}

func TestCoupledErrors(t *testing.T) {
	c := readChain(t, coupledChain)
	best := bestFor(t, c)
	noStates := []int64{-1, 2, 3, 4, math.MaxInt64, math.MinInt64}
	noSteps := []int64{-1, impl.MaxSteps + 1, math.MaxInt64, math.MinInt64}
	for _, s := range noStates {
		pairCodes(t, "no state on the left", impl.ErrRange, c, best, s, 0)
		pairCodes(t, "no state on the right", impl.ErrRange, c, best, 1, s)
		pairCodes(t, "no states", impl.ErrRange, c, best, s, s)
		runCodes(t, "no state and no steps", impl.ErrRange, c, best, s, s, -1)
		v, w, got := impl.PairStep(c, best, s, 0, 99)
		code(t, "no state and no draw", impl.ErrRange, v, w, got)
	}
	for _, steps := range noSteps {
		runCodes(t, "no steps", impl.ErrRange, c, best, 0, 1, steps)
		runCodes(t, "no steps from equal states", impl.ErrRange, c, best, 1, 1, steps)
	}
	for _, steps := range []int64{0, impl.MaxSteps} {
		runCodes(t, "steps", impl.OK, c, best, 0, 1, steps)
	}
	for _, draw := range []int64{-1, 3, 4, math.MaxInt64, math.MinInt64} {
		v, w, got := impl.PairStep(c, best, 0, 1, draw)
		code(t, "no draw", impl.ErrRange, v, w, got)
	}
	// ErrInvalid comes before ErrRange.
	for name, bad := range invalidCoupled() {
		for _, s := range append(noStates, 0) {
			pairCodes(t, name, impl.ErrInvalid, c, bad, s, 1)
			runCodes(t, name, impl.ErrInvalid, c, bad, 0, s, 99)
		}
	}
	for name, bad := range invalidChains() {
		pairCodes(t, name, impl.ErrInvalid, bad, best, 0, 1)
		pairCodes(t, name, impl.ErrInvalid, bad, best, 0, 5)
		pairCodes(t, name, impl.ErrInvalid, bad, impl.Coupled(bad), 0, 0)
	}
	swap := readChain(t, "chain 2 1\nfrom 0 1\nfrom 1 0\n")
	pairCodes(t, "for another chain", impl.ErrInvalid, swap, best, 0, 1)
}

// TestCoupledDigits has the greatest numbers of digits that can come: they are
// far from MaxDigits.
func TestCoupledDigits(t *testing.T) {
	r := rand.New(rand.NewSource(112))
	for range 5 {
		c := randomChainOf(r, impl.MaxMet, 59)
		for _, row := range c.Weights {
			for at := range row {
				row[at] = 1 + r.Int63n(14)
			}
			row[0] += 59 - row[0] - row[1] - row[2] - row[3]
		}
		apart, _ := impl.ApartCoupled(c)
		j, got := impl.JointAfter(c, apart, 0, 1, impl.MaxSteps)
		code(t, "JointAfter", impl.OK, j, got)
		x, got := impl.NotMetAfter(c, apart, 0, 1, impl.MaxSteps)
		isFraction(t, "NotMetAfter", notMet(apart, impl.MaxSteps)[pairNumber(apart, 0, 1)], x, got)
		time, got := impl.ExpectedMeeting(c, apart, 0, 1)
		isFraction(t, "ExpectedMeeting", timesTo(pairChainOf(apart), metPairs(apart))[pairNumber(apart, 0, 1)], time, got)
		same(t, "long", len(x.Den) > 100 && len(time.Den) > 10, true)
	}
}

func TestExampleOfChapter4(t *testing.T) {
	c := readChain(t, "chain 2 3\nfrom 2 1\nfrom 1 2\n")
	best, got := impl.BestCoupled(c)
	same(t, "code", got, int64(impl.OK))
	same(t, "from (0, 1)", best.Weights[1], []int64{1, 1, 0, 1})
	same(t, "total", best.Total, int64(3))
	x, got := impl.NotMetAfter(c, best, 0, 1, 2)
	isFraction(t, "NotMetAfter", big.NewRat(1, 9), x, got)
	x, got = impl.ExpectedMeeting(c, best, 0, 1)
	isFraction(t, "ExpectedMeeting", big.NewRat(3, 2), x, got)
	x, got = impl.RowDistance(c, 0, 1, 2)
	isFraction(t, "RowDistance", big.NewRat(1, 9), x, got)
	steps, got := impl.MixingTime(c, frac("1/10"))
	same(t, "MixingTime", steps, int64(3))
	same(t, "code", got, int64(impl.OK))
}
