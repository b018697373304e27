package tests

import (
	"math/big"
	"math/rand"
	"slices"
	"testing"

	"loop.example/g01118/impl"
)

// The tests of this file are about promise 6: what happens until a set is hit.

// stepped returns what is expected of values behind a step from a state.
func stepped(c impl.Chain, s int64, values []*big.Rat) *big.Rat {
	sum := new(big.Rat)
	for u, x := range values {
		sum.Add(sum, new(big.Rat).Mul(chanceOf(c, s, int64(u)), x))
	}
	return sum
}

func TestHitChances(t *testing.T) {
	r := rand.New(rand.NewSource(51))
	for _, c := range chainsOfAllKinds(r, 250) {
		can := leads(c)
		for _, set := range setsOf(c.States) {
			list, got := impl.HitChances(c, set)
			isFractions(t, "hit", hitsOf(c, set), list, got)
			for s, x := range ratsOf(list) {
				if slices.Contains(set, int64(s)) {
					same(t, "in the set", isOne(x), true)
					continue
				}
				same(t, "one step", stepped(c, int64(s), ratsOf(list)).Cmp(x), 0)
				reached := slices.ContainsFunc(set, func(u int64) bool { return can[s][u] })
				same(t, "more than 0", x.Sign() > 0, reached)
			}
		}
	}
}

func TestHitTimes(t *testing.T) {
	r := rand.New(rand.NewSource(52))
	sure, unsure := 0, 0
	for _, c := range chainsOfAllKinds(r, 250) {
		for _, set := range setsOf(c.States) {
			list, got := impl.HitTimes(c, set)
			if !slices.Equal(areSure(c, set), slices.Repeat([]bool{true}, int(c.States))) {
				code(t, "HitTimes", impl.ErrState, list, got)
				unsure++
				continue
			}
			sure++
			isFractions(t, "times", timesTo(c, set), list, got)
			for s, x := range ratsOf(list) {
				if slices.Contains(set, int64(s)) {
					same(t, "in the set", x.Sign(), 0)
				} else {
					later := stepped(c, int64(s), ratsOf(list))
					same(t, "one step", later.Add(later, big.NewRat(1, 1)).Cmp(x), 0)
				}
			}
		}
	}
	if sure < 100 || unsure < 100 {
		t.Error("too few kinds of sets", sure, unsure)
	}
}

// areSure tells for each state whether a set is hit from it with the chance 1:
// if there is no way from it, past the set, to where the set cannot be hit.
func areSure(c impl.Chain, set []int64) []bool {
	past := impl.Chain{States: c.States, Total: c.Total}
	for s, row := range c.Weights {
		if slices.Contains(set, int64(s)) {
			row = make([]int64, c.States)
			row[s] = c.Total
		}
		past.Weights = append(past.Weights, row)
	}
	can, list := leads(past), []bool{}
	for s := range c.States {
		isSure := true
		for u := range c.States {
			hits := slices.ContainsFunc(set, func(v int64) bool { return can[u][v] })
			isSure = isSure && (!can[s][u] || hits)
		}
		list = append(list, isSure)
	}
	return list
}

func TestEndChances(t *testing.T) {
	r := rand.New(rand.NewSource(53))
	for _, c := range chainsOfAllKinds(r, 1000) {
		closed := closedOf(c)
		for s := range c.States {
			want := []*big.Rat{}
			for _, class := range closed {
				want = append(want, hitsOf(c, class)[s])
			}
			ends, got := impl.EndChances(c, s)
			isFractions(t, "ends", want, ends, got)
			same(t, "it ends somewhere", isOne(sumOf(ratsOf(ends))), true)
		}
	}
}

func TestVisitsBefore(t *testing.T) {
	r := rand.New(rand.NewSource(54))
	for _, c := range chainsOfAllKinds(r, 120) {
		for _, set := range setsOf(c.States) {
			isSure := areSure(c, set)
			for s := range c.States {
				list, got := impl.VisitsBefore(c, s, set)
				if !isSure[s] {
					code(t, "VisitsBefore", impl.ErrState, list, got)
					continue
				}
				want := zeros(c.States)
				for _, u := range hopeful(c, set) {
					want[u] = gather(c, set, func(v int64) *big.Rat {
						if u == v {
							return big.NewRat(1, 1)
						}
						return new(big.Rat)
					})[s]
				}
				isFractions(t, "visits", want, list, got)
				visitsStep(t, c, s, set, ratsOf(list))
			}
		}
	}
}

// visitsStep checks that a state is visited as often as steps lead to it, and in
// the beginning; in all, as often as there are steps before the set is hit.
func visitsStep(t *testing.T, c impl.Chain, s int64, set []int64, visits []*big.Rat) {
	t.Helper()
	for u := range c.States {
		want := new(big.Rat)
		if !slices.Contains(set, u) {
			for v, x := range visits {
				want.Add(want, new(big.Rat).Mul(x, chanceOf(c, int64(v), u)))
			}
			if u == s {
				want.Add(want, big.NewRat(1, 1))
			}
		}
		same(t, "one step to it", visits[u].Cmp(want), 0)
	}
	same(t, "as often as there are steps", sumOf(visits).Cmp(timesTo(c, set)[s]), 0)
}

func TestEntryChances(t *testing.T) {
	r := rand.New(rand.NewSource(55))
	for _, c := range chainsOfAllKinds(r, 120) {
		for _, set := range setsOf(c.States) {
			want, hits := entriesOf(c, set), hitsOf(c, set)
			for s := range c.States {
				list, got := impl.EntryChances(c, s, set)
				isFractions(t, "entries", want[s], list, got)
				same(t, "all of them", sumOf(ratsOf(list)).Cmp(hits[s]), 0)
				if slices.Contains(set, s) {
					same(t, "in the set", isOne(ratOf(list[s])), true)
					continue
				}
				for u := range c.States {
					column := []*big.Rat{}
					for v := range c.States {
						column = append(column, want[v][u])
					}
					same(t, "one step", stepped(c, s, column).Cmp(ratOf(list[u])), 0)
				}
			}
		}
	}
}

// TestHittingEdges has chains that are not connected, the only state of a chain,
// and sets that are the whole.
func TestHittingEdges(t *testing.T) {
	c, whole := readChain(t, twoEnds), []int64{0, 1, 2}
	list, got := impl.HitChances(c, []int64{2})
	same(t, "one of two ends", fracTexts(list), "1/2 0 1")
	same(t, "code", got, int64(impl.OK))
	list, got = impl.HitChances(c, []int64{0})
	same(t, "a state that is left", fracTexts(list), "1 0 0")
	same(t, "code", got, int64(impl.OK))
	list, got = impl.HitTimes(c, []int64{1, 2})
	same(t, "both ends", fracTexts(list), "3/2 0 0")
	same(t, "code", got, int64(impl.OK))
	list, got = impl.HitTimes(c, []int64{0, 1})
	code(t, "one state never hits", impl.ErrState, list, got)
	list, got = impl.EntryChances(c, 0, []int64{1})
	same(t, "less than 1 in all", fracTexts(list), "0 1/2 0")
	same(t, "code", got, int64(impl.OK))
	list, got = impl.EntryChances(c, 2, []int64{0, 1})
	same(t, "never", fracTexts(list), "0 0 0")
	same(t, "code", got, int64(impl.OK))
	list, got = impl.VisitsBefore(c, 0, []int64{1, 2})
	same(t, "visits", fracTexts(list), "3/2 0 0")
	same(t, "code", got, int64(impl.OK))
	list, got = impl.VisitsBefore(c, 1, []int64{0, 1})
	same(t, "from the set, though others never hit it", fracTexts(list), "0 0 0")
	same(t, "code", got, int64(impl.OK))
	list, got = impl.VisitsBefore(c, 0, []int64{1})
	code(t, "half of them", impl.ErrState, list, got)
	list, got = impl.HitChances(c, whole)
	same(t, "the whole", fracTexts(list), "1 1 1")
	same(t, "code", got, int64(impl.OK))
	list, got = impl.HitTimes(c, whole)
	same(t, "the whole", fracTexts(list), "0 0 0")
	same(t, "code", got, int64(impl.OK))
	list, got = impl.EntryChances(c, 1, whole)
	same(t, "the whole", fracTexts(list), "0 1 0")
	same(t, "code", got, int64(impl.OK))
	list, got = impl.VisitsBefore(c, 0, whole)
	same(t, "the whole", fracTexts(list), "0 0 0")
	same(t, "code", got, int64(impl.OK))
	// From 3 the set {0} is surely hit, though not from 1 and 2.
	d := readChain(t, "chain 4 2\nfrom 0 1 1 0\nfrom 0 2 0 0\nfrom 0 0 2 0\nfrom 1 0 0 1\n")
	list, got = impl.VisitsBefore(d, 3, []int64{0})
	same(t, "not from all states", fracTexts(list), "0 0 0 2")
	same(t, "code", got, int64(impl.OK))
	list, got = impl.EndChances(d, 3)
	same(t, "ends", fracTexts(list), "1/2 1/2")
	same(t, "code", got, int64(impl.OK))
}

func TestOnlyState(t *testing.T) {
	c, set := readChain(t, "chain 1 7\nfrom 7\n"), []int64{0}
	list, got := impl.HitChances(c, set)
	same(t, "HitChances", fracTexts(list), "1")
	same(t, "code", got, int64(impl.OK))
	list, got = impl.HitTimes(c, set)
	same(t, "HitTimes", fracTexts(list), "0")
	same(t, "code", got, int64(impl.OK))
	list, got = impl.EndChances(c, 0)
	same(t, "EndChances", fracTexts(list), "1")
	same(t, "code", got, int64(impl.OK))
	list, got = impl.VisitsBefore(c, 0, set)
	same(t, "VisitsBefore", fracTexts(list), "0")
	same(t, "code", got, int64(impl.OK))
	list, got = impl.EntryChances(c, 0, set)
	same(t, "EntryChances", fracTexts(list), "1")
	same(t, "code", got, int64(impl.OK))
	time, got := impl.ReturnTime(c, 0)
	same(t, "ReturnTime", impl.FractionText(time), "1")
	same(t, "code", got, int64(impl.OK))
	table, got := impl.PassageTimes(c)
	same(t, "PassageTimes", table, [][]impl.Fraction{fracs("0")})
	same(t, "code", got, int64(impl.OK))
	time, got = impl.KemenyTime(c)
	same(t, "KemenyTime", impl.FractionText(time), "0")
	same(t, "code", got, int64(impl.OK))
	d, got := impl.WatchedChain(c, set)
	same(t, "WatchedChain", impl.ChainText(d), "chain 1 1\nfrom 1\n")
	same(t, "code", got, int64(impl.OK))
}

func TestHittingErrors(t *testing.T) {
	for name, bad := range invalidChains() {
		for _, set := range append(badSets(), []int64{0}, []int64{0, 1}) {
			for _, s := range []int64{0, -1, 7} {
				hittingCode(t, name, impl.ErrInvalid, bad, s, set)
			}
		}
	}
	for _, c := range []impl.Chain{readChain(t, twoEnds), walkOn(3, 2, 1)} {
		for _, set := range badSets() {
			for _, s := range []int64{0, -1, 7} {
				hittingCode(t, "no set", impl.ErrRange, c, s, set)
			}
		}
		for _, s := range badStates() {
			ends, got := impl.EndChances(c, s)
			code(t, "EndChances", impl.ErrRange, ends, got)
			for _, set := range setsOf(3) {
				list, got := impl.VisitsBefore(c, s, set)
				code(t, "VisitsBefore", impl.ErrRange, list, got)
				list, got = impl.EntryChances(c, s, set)
				code(t, "EntryChances", impl.ErrRange, list, got)
			}
		}
	}
}

func hittingCode(t *testing.T, name string, want int64, c impl.Chain, s int64, set []int64) {
	t.Helper()
	list, got := impl.HitChances(c, set)
	code(t, name, want, list, got)
	list, got = impl.HitTimes(c, set)
	code(t, name, want, list, got)
	list, got = impl.VisitsBefore(c, s, set)
	code(t, name, want, list, got)
	list, got = impl.EntryChances(c, s, set)
	code(t, name, want, list, got)
	d, got := impl.WatchedChain(c, set)
	code(t, name, want, d, got)
	if want == impl.ErrInvalid {
		list, got = impl.EndChances(c, s)
		code(t, name, want, list, got)
	}
}
