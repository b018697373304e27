package tests

import (
	"math"
	"math/big"
	"math/rand"
	"testing"

	"loop.example/g01118/impl"
)

// The tests of this file are about promise 10: distances after steps.

// sureRats returns the chances of a chain that is in s.
func sureRats(c impl.Chain, s int64) []*big.Rat {
	p := zeros(c.States)
	p[s] = big.NewRat(1, 1)
	return p
}

// apartOf returns the greatest difference of the chances of a set.
func apartOf(p, q []*big.Rat) *big.Rat {
	worst := new(big.Rat)
	for _, set := range setsOf(int64(len(p))) {
		sum := new(big.Rat)
		for _, s := range set {
			sum.Add(sum, less(p[s], q[s]))
		}
		if sum.Cmp(worst) > 0 {
			worst = sum
		}
	}
	return worst
}

// worstsOf returns the greatest differences after 0 to MaxSteps steps.
func worstsOf(c impl.Chain) []*big.Rat {
	spreads, list := [][]*big.Rat{}, []*big.Rat{}
	for s := range c.States {
		spreads = append(spreads, sureRats(c, s))
	}
	for range impl.MaxSteps + 1 {
		worst := new(big.Rat)
		for s := range spreads {
			for u := range s {
				if apart := apartOf(spreads[s], spreads[u]); apart.Cmp(worst) > 0 {
					worst = apart
				}
			}
		}
		list = append(list, worst)
		for s := range spreads {
			spreads[s] = ratsAfter(c, spreads[s], 1)
		}
	}
	return list
}

func TestRowDistance(t *testing.T) {
	r := rand.New(rand.NewSource(131))
	for _, c := range chainsOfAllKinds(r, 200) {
		s, u := r.Int63n(c.States), r.Int63n(c.States)
		for _, steps := range []int64{0, 1, 2, r.Int63n(impl.MaxSteps + 1), impl.MaxSteps} {
			want := apartOf(ratsAfter(c, sureRats(c, s), steps), ratsAfter(c, sureRats(c, u), steps))
			x, got := impl.RowDistance(c, s, u, steps)
			isFraction(t, "distance", want, x, got)
			back, _ := impl.RowDistance(c, u, s, steps)
			same(t, "both ways", back, x)
			worst, _ := impl.WorstDistance(c, steps)
			same(t, "not more than the worst", ratOf(x).Cmp(ratOf(worst)) <= 0, true)
			if s == u {
				same(t, "the same state", x, frac("0"))
			} else if steps == 0 {
				same(t, "0 steps", x, frac("1"))
			}
		}
	}
}

func TestWorstDistance(t *testing.T) {
	r := rand.New(rand.NewSource(132))
	for _, c := range chainsOfAllKinds(r, 50) {
		worsts := worstsOf(c)
		for steps, want := range worsts {
			x, got := impl.WorstDistance(c, int64(steps))
			isFraction(t, "worst", want, x, got)
			if steps > 0 {
				same(t, "never more", ratOf(x).Cmp(worsts[steps-1]) <= 0, true)
			}
			// Behind some steps, the rest cannot leave more than its own share.
			first := r.Intn(steps + 1)
			most := new(big.Rat).Mul(worsts[first], worsts[steps-first])
			same(t, "not more than the product", ratOf(x).Cmp(most) <= 0, true)
		}
	}
}

// TestDistanceAndMeeting has all pairs of coupled runs: they have not met at
// least as likely as their spreads are apart.
func TestDistanceAndMeeting(t *testing.T) {
	for _, one := range couplingsOfAllKinds(t, 133, 15) {
		for s := range one.c.States {
			for u := range one.c.States {
				for _, steps := range []int64{0, 1, 2, 3, 7, 20} {
					distance, _ := impl.RowDistance(one.c, s, u, steps)
					x, _ := impl.NotMetAfter(one.c, one.m, s, u, steps)
					same(t, one.name, ratOf(distance).Cmp(ratOf(x)) <= 0, true)
				}
			}
		}
	}
}

// isMixing fails the test unless MixingTime returns the first of the distances
// after 0, 1, 2 and so on steps that is at most the given one.
func isMixing(t *testing.T, c impl.Chain, worsts []*big.Rat, most impl.Fraction) {
	t.Helper()
	steps, got := impl.MixingTime(c, most)
	for first, worst := range worsts {
		if worst.Cmp(ratOf(most)) <= 0 {
			same(t, "steps", steps, int64(first))
			same(t, "code", got, int64(impl.OK))
			return
		}
	}
	code(t, "no steps", impl.ErrNotFound, steps, got)
}

func TestMixingTime(t *testing.T) {
	r := rand.New(rand.NewSource(134))
	tiny := ratOf(frac("1/" + tenTo(150)))
	for _, c := range chainsOfAllKinds(r, 50) {
		worsts := worstsOf(c)
		for _, most := range []string{"0", "1", "7/2", "1/4", "1/1000", "999/1000", "1/" + tenTo(299), nines(299) + "/" + tenTo(299), nines(300)} {
			isMixing(t, c, worsts, frac(most))
		}
		for range 10 {
			worst := worsts[r.Intn(len(worsts))]
			just, _ := ofRat(worst)
			isMixing(t, c, worsts, just)
			above, _ := ofRat(new(big.Rat).Add(worst, tiny))
			isMixing(t, c, worsts, above)
			if worst.Sign() > 0 {
				below, _ := ofRat(less(worst, tiny))
				isMixing(t, c, worsts, below)
			}
		}
	}
}

func TestMixingEdges(t *testing.T) {
	// The distance is halved by each step.
	half := readChain(t, "chain 2 4\nfrom 3 1\nfrom 1 3\n")
	power := big.NewInt(1)
	for steps := range int64(impl.MaxSteps + 3) {
		most := impl.Fraction{Num: "1", Den: power.String()}
		got, gotCode := impl.MixingTime(half, most)
		if steps <= impl.MaxSteps {
			same(t, "halved", got, steps)
			same(t, "code", gotCode, int64(impl.OK))
			x, gotCode := impl.WorstDistance(half, steps)
			same(t, "halved", x, most)
			same(t, "code", gotCode, int64(impl.OK))
		} else {
			code(t, "more than MaxSteps", impl.ErrNotFound, got, gotCode)
		}
		power.Lsh(power, 1)
	}
	for _, one := range []struct {
		name, text, most string
		want, code       int64
	}{
		{"one state", "chain 1 5\nfrom 5\n", "0", 0, impl.OK},
		{"one state, and more", "chain 1 5\nfrom 5\n", "3/2", 0, impl.OK},
		{"just 1", "chain 2 1\nfrom 0 1\nfrom 1 0\n", "1", 0, impl.OK},
		{"more than 1", "chain 2 1\nfrom 0 1\nfrom 1 0\n", "2", 0, impl.OK},
		{"never less than 1", "chain 2 1\nfrom 0 1\nfrom 1 0\n", nines(299) + "/" + tenTo(299), 0, impl.ErrNotFound},
		{"equal rows", "chain 2 3\nfrom 2 1\nfrom 2 1\n", "0", 1, impl.OK},
		{"equal rows, and 1", "chain 2 3\nfrom 2 1\nfrom 2 1\n", "1", 0, impl.OK},
		{"in the end", "chain 6 1\nfrom 1 0 0 0 0 0\nfrom 1 0 0 0 0 0\nfrom 0 1 0 0 0 0\nfrom 0 0 1 0 0 0\nfrom 0 0 0 1 0 0\nfrom 0 0 0 0 1 0\n", "0", 5, impl.OK},
		{"two classes", twoEnds, "1/2", 0, impl.ErrNotFound},
	} {
		steps, got := impl.MixingTime(readChain(t, one.text), frac(one.most))
		same(t, one.name, steps, one.want)
		code(t, one.name, one.code, steps, got)
	}
	for steps := range int64(impl.MaxSteps + 1) {
		x, got := impl.WorstDistance(readChain(t, "chain 1 5\nfrom 5\n"), steps)
		isFraction(t, "one state", new(big.Rat), x, got)
		x, got = impl.RowDistance(readChain(t, "chain 1 5\nfrom 5\n"), 0, 0, steps)
		isFraction(t, "one state", new(big.Rat), x, got)
	}
}

func TestMixingErrors(t *testing.T) {
	c := readChain(t, twoEnds)
	for _, one := range [][3]int64{
		{-1, 0, 0}, {3, 0, 0}, {0, -1, 0}, {0, 3, 0}, {0, 1, -1}, {0, 1, impl.MaxSteps + 1}, {1, 1, -1}, {3, 3, 0}, {math.MaxInt64, 0, 0},
		{0, math.MinInt64, 1}, {0, 1, math.MaxInt64}, {0, 1, math.MinInt64}, {5, -5, 99},
	} {
		x, got := impl.RowDistance(c, one[0], one[1], one[2])
		code(t, "RowDistance", impl.ErrRange, x, got)
		for name, bad := range invalidChains() {
			x, got := impl.RowDistance(bad, one[0], one[1], one[2])
			code(t, name, impl.ErrInvalid, x, got)
		}
	}
	for _, steps := range []int64{-1, impl.MaxSteps + 1, math.MaxInt64, math.MinInt64} {
		x, got := impl.WorstDistance(c, steps)
		code(t, "WorstDistance", impl.ErrRange, x, got)
	}
	for name, bad := range invalidChains() {
		for _, steps := range []int64{0, -1, impl.MaxSteps} {
			x, got := impl.WorstDistance(bad, steps)
			code(t, name, impl.ErrInvalid, x, got)
		}
		for _, most := range []string{"1", "0", "2/4"} {
			steps, got := impl.MixingTime(bad, frac(most))
			code(t, name, impl.ErrInvalid, steps, got)
		}
	}
	for _, most := range []string{"2/4", "0/2", "1/0", "x", "", "-1", "01", tenTo(300), "1/" + tenTo(300)} {
		steps, got := impl.MixingTime(c, frac(most))
		code(t, "no fraction", impl.ErrInvalid, steps, got)
	}
	steps, got := impl.MixingTime(c, impl.Fraction{})
	code(t, "an empty fraction", impl.ErrInvalid, steps, got)
}
