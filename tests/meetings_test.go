package tests

import (
	"math/big"
	"math/rand"
	"slices"
	"testing"

	"loop.example/g01118/impl"
)

// The tests of this file are about promise 9: when two runs have met.

// notMet returns, for each pair, the chance that two runs that begin there have
// not met by some step: what it is behind one step, for one step less.
func notMet(m impl.Coupled, steps int64) []*big.Rat {
	pairs := pairChainOf(m)
	chances := zeros(pairs.States)
	for number := range chances {
		chances[number].SetInt64(1)
	}
	for k := range steps + 1 {
		next := zeros(pairs.States)
		for number := range next {
			if int64(number)/m.States == int64(number)%m.States {
				continue
			}
			if k == 0 {
				next[number].SetInt64(1)
			} else {
				next[number] = stepped(pairs, int64(number), chances)
			}
		}
		chances = next
	}
	return chances
}

func TestNotMetAfter(t *testing.T) {
	r := rand.New(rand.NewSource(121))
	for _, one := range couplingsOfAllKinds(t, 122, 60) {
		c, m := one.c, one.m
		s, u := r.Int63n(c.States), r.Int63n(c.States)
		last := big.NewRat(1, 1)
		for _, steps := range []int64{0, 1, 2, 3 + r.Int63n(impl.MaxSteps-4), impl.MaxSteps} {
			x, got := impl.NotMetAfter(c, m, s, u, steps)
			isFraction(t, one.name, notMet(m, steps)[pairNumber(m, s, u)], x, got)
			same(t, one.name+": never more", ratOf(x).Cmp(last) <= 0, true)
			last = ratOf(x)
			distance, _ := impl.RowDistance(c, s, u, steps)
			same(t, one.name+": at least as likely as far", ratOf(distance).Cmp(ratOf(x)) <= 0, true)
			if s == u {
				same(t, one.name+": met in the beginning", x, frac("0"))
			} else if steps == 0 {
				same(t, one.name+": not met in the beginning", x, frac("1"))
			}
			j, _ := impl.JointAfter(c, m, s, u, steps)
			equal, _ := impl.MeetChance(j)
			met := less(big.NewRat(1, 1), ratOf(x))
			same(t, one.name+": equal states have met", ratOf(equal).Cmp(met) <= 0, true)
		}
	}
}

// TestNotMetAfterOneStep has the best coupled chain, which meets as often as any
// can after one step.
func TestNotMetAfterOneStep(t *testing.T) {
	r := rand.New(rand.NewSource(123))
	for _, c := range smallChains(r, 120) {
		best := bestFor(t, c)
		for s := range c.States {
			for u := range c.States {
				x, got := impl.NotMetAfter(c, best, s, u, 1)
				distance, _ := impl.RowDistance(c, s, u, 1)
				same(t, "one step", x, distance)
				same(t, "code", got, int64(impl.OK))
			}
		}
	}
}

// TestNotMetOfSticky has runs that stay together: they are in equal states just
// if they have met, and they meet as those that do not stay together.
func TestNotMetOfSticky(t *testing.T) {
	r := rand.New(rand.NewSource(124))
	parted := 0
	for _, one := range couplingsOfAllKinds(t, 125, 120) {
		c, m := one.c, one.m
		sticky, _ := impl.StickyCoupled(c, m)
		s, u := r.Int63n(c.States), r.Int63n(c.States)
		for _, steps := range []int64{0, 1, 2, 5, r.Int63n(impl.MaxSteps + 1)} {
			x, _ := impl.NotMetAfter(c, m, s, u, steps)
			y, got := impl.NotMetAfter(c, sticky, s, u, steps)
			same(t, one.name+": met as before", y, x)
			same(t, one.name+": code", got, int64(impl.OK))
			j, _ := impl.JointAfter(c, sticky, s, u, steps)
			equal, _ := impl.MeetChance(j)
			isFraction(t, one.name+": stay together", less(big.NewRat(1, 1), ratOf(equal)), y, got)
			j, _ = impl.JointAfter(c, m, s, u, steps)
			before, _ := impl.MeetChance(j)
			if before != equal {
				parted++
			}
		}
	}
	if parted < 100 {
		t.Error("too few runs that part again", parted)
	}
}

// runsApart counts the lists of draws by which two runs are never in the same
// state, up to some step.
func runsApart(t *testing.T, one coupling, s, u, steps int64) int64 {
	if s == u {
		return 0
	}
	if steps == 0 {
		return 1
	}
	count := int64(0)
	for draw := range one.m.Total {
		v, w, got := impl.PairStep(one.c, one.m, s, u, draw)
		if got != impl.OK {
			t.Fatal("no step", got)
		}
		count += runsApart(t, one, v, w, steps-1)
	}
	return count
}

func TestNotMetByDraws(t *testing.T) {
	r := rand.New(rand.NewSource(126))
	for range 60 {
		c := randomChainOf(r, 2+r.Int63n(impl.MaxMet-1), 1+r.Int63n(3))
		for _, one := range couplingsOf(t, r, c) {
			s, u := r.Int63n(c.States), r.Int63n(c.States)
			all := big.NewRat(1, 1)
			for steps := range int64(4) {
				x, got := impl.NotMetAfter(c, one.m, s, u, steps)
				count := big.NewRat(runsApart(t, one, s, u, steps), 1)
				isFraction(t, one.name, count.Quo(count, all), x, got)
				all.Mul(all, big.NewRat(one.m.Total, 1))
			}
		}
	}
}

func TestSurelyMeets(t *testing.T) {
	kinds, perhaps := map[bool]int{}, 0
	for _, one := range couplingsOfAllKinds(t, 127, 100) {
		c, m := one.c, one.m
		chances := hitsOf(pairChainOf(m), metPairs(m))
		for s := range c.States {
			for u := range c.States {
				isSure, got := impl.SurelyMeets(c, m, s, u)
				same(t, one.name, isSure, isOne(chances[pairNumber(m, s, u)]))
				same(t, one.name+": code", got, int64(impl.OK))
				kinds[isSure]++
				if chance := chances[pairNumber(m, s, u)]; chance.Sign() > 0 && !isSure {
					perhaps++
				}
				if s == u {
					same(t, one.name+": met in the beginning", isSure, true)
				}
			}
		}
	}
	if kinds[true] < 500 || kinds[false] < 500 || perhaps < 100 {
		t.Error("too few of one kind", kinds, perhaps)
	}
}

func TestExpectedMeeting(t *testing.T) {
	for _, one := range couplingsOfAllKinds(t, 128, 60) {
		c, m := one.c, one.m
		times := timesTo(pairChainOf(m), metPairs(m))
		chances := hitsOf(pairChainOf(m), metPairs(m))
		for number, want := range times {
			s, u := int64(number)/m.States, int64(number)%m.States
			x, got := impl.ExpectedMeeting(c, m, s, u)
			if !isOne(chances[number]) {
				code(t, one.name, impl.ErrState, x, got)
				continue
			}
			isFraction(t, one.name, want, x, got)
			if s == u {
				same(t, one.name+": met in the beginning", x, frac("0"))
			}
		}
	}
}

// TestExpectedMeetingBySteps adds up the chances that two runs have not met by
// each step: the expected time is what this sum comes to.
func TestExpectedMeetingBySteps(t *testing.T) {
	for _, one := range couplingsOfAllKinds(t, 129, 25) {
		c, m := one.c, one.m
		for s := range c.States {
			for u := range s {
				time, got := impl.ExpectedMeeting(c, m, s, u)
				if got != impl.OK {
					continue
				}
				sum := new(big.Rat)
				for steps := range int64(impl.MaxSteps) {
					x, _ := impl.NotMetAfter(c, m, s, u, steps)
					sum.Add(sum, ratOf(x))
				}
				rest := less(ratOf(time), sum)
				// Behind these steps, the slowest of all pairs may be left.
				left, _ := impl.NotMetAfter(c, m, s, u, impl.MaxSteps)
				slowest := slices.MaxFunc(timesTo(pairChainOf(m), metPairs(m)), func(x, y *big.Rat) int { return x.Cmp(y) })
				most := new(big.Rat).Mul(ratOf(left), slowest)
				same(t, one.name+": the rest", rest.Sign() >= 0 && rest.Cmp(most) <= 0, true)
			}
		}
	}
}

func TestMeetingEdges(t *testing.T) {
	const never = "never"
	down := "chain 4 1\nfrom 1 0 0 0\nfrom 1 0 0 0\nfrom 0 1 0 0\nfrom 0 0 1 0\n"
	for _, one := range []struct {
		name, text string
		make       func(impl.Chain) (impl.Coupled, int64)
		s, u       int64
		// The chances not to have met by the steps 0, 1, 2 and so on.
		chances []string
		time    string
	}{
		{"one state", "chain 1 7\nfrom 7\n", impl.ApartCoupled, 0, 0, []string{"0", "0", "0"}, "0"},
		{"the same state", coupledChain, impl.ApartCoupled, 1, 1, []string{"0", "0", "0"}, "0"},
		{"met at the first step", "chain 3 1\nfrom 0 1 0\nfrom 0 1 0\nfrom 0 1 0\n", impl.StairCoupled, 0, 2, []string{"1", "0", "0"}, "1"},
		{"met at the last step", down, impl.BestCoupled, 3, 0, []string{"1", "1", "1", "0", "0"}, "3"},
		{"met one step earlier", down, impl.BestCoupled, 2, 3, []string{"1", "1", "1", "0"}, "3"},
		{"never met", "chain 2 1\nfrom 0 1\nfrom 1 0\n", impl.BestCoupled, 0, 1, []string{"1", "1", "1", "1"}, never},
		{"staying", "chain 4 5\nfrom 5 0 0 0\nfrom 0 5 0 0\nfrom 0 0 5 0\nfrom 0 0 0 5\n", impl.ApartCoupled, 3, 1, []string{"1", "1", "1"}, never},
		{"never for one half", "chain 3 2\nfrom 0 1 1\nfrom 0 2 0\nfrom 0 0 2\n", impl.BestCoupled, 0, 1, []string{"1", "1/2", "1/2"}, never},
		{"met in the beginning, and parted", "chain 3 2\nfrom 0 1 1\nfrom 0 2 0\nfrom 0 0 2\n", impl.ApartCoupled, 0, 0, []string{"0", "0", "0"}, "0"},
		{"equal states that part", "chain 2 2\nfrom 1 1\nfrom 1 1\n", impl.ApartCoupled, 0, 1, []string{"1", "1/2", "1/4", "1/8"}, "2"},
		{"no meeting when crossing", "chain 3 2\nfrom 0 2 0\nfrom 1 0 1\nfrom 0 2 0\n", impl.StairCoupled, 0, 1, []string{"1", "1", "1", "1"}, never},
		{"more likely together", "chain 2 4\nfrom 3 1\nfrom 2 2\n", impl.StairCoupled, 0, 1, []string{"1", "1/4", "1/16"}, "4/3"},
		{"apart", "chain 2 4\nfrom 3 1\nfrom 2 2\n", impl.ApartCoupled, 0, 1, []string{"1", "1/2", "1/4"}, "2"},
	} {
		c := readChain(t, one.text)
		m, got := one.make(c)
		same(t, one.name+": code", got, int64(impl.OK))
		for steps, want := range one.chances {
			x, got := impl.NotMetAfter(c, m, one.s, one.u, int64(steps))
			isFraction(t, one.name, ratOf(frac(want)), x, got)
		}
		isSure, got := impl.SurelyMeets(c, m, one.s, one.u)
		same(t, one.name+": sure", isSure, one.time != never)
		same(t, one.name+": code", got, int64(impl.OK))
		time, got := impl.ExpectedMeeting(c, m, one.s, one.u)
		if one.time == never {
			code(t, one.name+": time", impl.ErrState, time, got)
		} else {
			isFraction(t, one.name+": time", ratOf(frac(one.time)), time, got)
		}
	}
}

// TestMeetingPastMet has runs that part behind a meeting and never meet again:
// this does not matter.
func TestMeetingPastMet(t *testing.T) {
	c := readChain(t, "chain 4 4\nfrom 1 1 1 1\nfrom 1 1 1 1\nfrom 1 1 1 1\nfrom 1 1 1 1\n")
	m := coupledOf(c, 4, func(s, u int64) [][]int64 {
		parts := flatCosts(4, 4, 0)
		for v := range parts {
			if s == 0 && u == 1 {
				parts[v][v] = 1
			} else {
				parts[v][(v+2)%4] = 1
			}
		}
		return parts
	})
	same(t, "valid", impl.ValidCoupled(c, m), true)
	for steps := int64(1); steps < 4; steps++ {
		x, got := impl.NotMetAfter(c, m, 0, 1, steps)
		isFraction(t, "met at the first step", new(big.Rat), x, got)
		x, got = impl.NotMetAfter(c, m, 1, 0, steps)
		isFraction(t, "never met", big.NewRat(1, 1), x, got)
		j, _ := impl.JointAfter(c, m, 0, 1, steps)
		equal, _ := impl.MeetChance(j)
		same(t, "in equal states", equal == frac("1"), steps == 1)
	}
	for number := range int64(16) {
		s, u := number/4, number%4
		hasMet := s == u || s == 0 && u == 1
		isSure, got := impl.SurelyMeets(c, m, s, u)
		same(t, "sure", isSure, hasMet)
		same(t, "code", got, int64(impl.OK))
		time, got := impl.ExpectedMeeting(c, m, s, u)
		switch {
		case !hasMet:
			code(t, "never", impl.ErrState, time, got)
		case s == u:
			isFraction(t, "the same state", new(big.Rat), time, got)
		default:
			isFraction(t, "one step", big.NewRat(1, 1), time, got)
		}
	}
}
