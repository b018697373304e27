package tests

import (
	"math/big"
	"math/rand"
	"slices"
	"testing"

	"loop.example/g01118/impl"
)

// The tests of this file are about promise 7: how far spreads are apart.

// alikeSpreads returns pairs of spreads over the same states: any, equal ones,
// ones that have no state in common, and ones over one state.
func alikeSpreads(r *rand.Rand, count int) [][2][]impl.Fraction {
	list := [][2][]impl.Fraction{{fracs("1"), fracs("1")}, {fracs("1", "0"), fracs("0", "1")}}
	for range count {
		states, total := 1+r.Int63n(impl.MaxStates), 1+r.Int63n(50)
		p, q := randomSpread(r, states, total), randomSpread(r, states, 1+r.Int63n(1000))
		switch r.Intn(4) {
		case 0:
			q = slices.Clone(p)
		case 1:
			q = randomSpread(r, states, total)
		case 2:
			p = randomSpread(r, states, 1+r.Int63())
		}
		list = append(list, [2][]impl.Fraction{p, q})
	}
	return list
}

func lesserRat(x, y *big.Rat) *big.Rat {
	if x.Cmp(y) < 0 {
		return x
	}
	return y
}

func less(x, y *big.Rat) *big.Rat { return new(big.Rat).Sub(x, y) }

// overlapOf returns the sum of the lesser chances.
func overlapOf(p, q []impl.Fraction) *big.Rat {
	list := []*big.Rat{}
	for s, x := range ratsOf(p) {
		list = append(list, lesserRat(x, ratOf(q[s])))
	}
	return sumOf(list)
}

func chanceOfEvent(p []impl.Fraction, event []int64) *big.Rat {
	list := []*big.Rat{}
	for _, s := range event {
		list = append(list, ratOf(p[s]))
	}
	return sumOf(list)
}

func TestDistance(t *testing.T) {
	one := big.NewRat(1, 1)
	for _, pair := range alikeSpreads(rand.New(rand.NewSource(61)), 400) {
		p, q := pair[0], pair[1]
		overlap := overlapOf(p, q)
		x, got := impl.OverlapOf(p, q)
		isFraction(t, "overlap", overlap, x, got)
		x, got = impl.DistanceOf(p, q)
		isFraction(t, "distance", less(one, overlap), x, got)
		back, _ := impl.DistanceOf(q, p)
		same(t, "both ways", back, x)
		same(t, "0 for equal ones", x.Num == "0", slices.Equal(p, q))
	}
}

func TestDistanceIsOne(t *testing.T) {
	r := rand.New(rand.NewSource(62))
	for range 400 {
		states := 1 + r.Int63n(impl.MaxStates)
		p, q, far := randomSpread(r, states, 1+r.Int63n(30)), randomSpread(r, states, 1+r.Int63n(30)), randomSpread(r, states, 1+r.Int63n(30))
		first, _ := impl.DistanceOf(p, q)
		second, _ := impl.DistanceOf(q, far)
		whole, _ := impl.DistanceOf(p, far)
		way := new(big.Rat).Add(ratOf(first), ratOf(second))
		if ratOf(whole).Cmp(way) > 0 {
			t.Errorf("%v %v %v: the distance is more than that of a way around", p, q, far)
		}
	}
}

func TestBestEvent(t *testing.T) {
	for _, pair := range alikeSpreads(rand.New(rand.NewSource(63)), 300) {
		p, q := pair[0], pair[1]
		likelier := []int64{}
		for s := range p {
			if ratOf(p[s]).Cmp(ratOf(q[s])) > 0 {
				likelier = append(likelier, int64(s))
			}
		}
		event, got := impl.BestEvent(p, q)
		same(t, "event", event, likelier)
		same(t, "code", got, int64(impl.OK))
		x, _ := impl.DistanceOf(p, q)
		same(t, "as far as the spreads", less(chanceOfEvent(p, event), chanceOfEvent(q, event)).Cmp(ratOf(x)), 0)
		for _, other := range setsOf(int64(len(p))) {
			apart := less(chanceOfEvent(p, other), chanceOfEvent(q, other))
			same(t, "no other event is better", apart.Abs(apart).Cmp(ratOf(x)) <= 0, true)
		}
	}
}

func TestSeparation(t *testing.T) {
	one := big.NewRat(1, 1)
	for _, pair := range alikeSpreads(rand.New(rand.NewSource(64)), 400) {
		p, q := pair[0], pair[1]
		worst := new(big.Rat)
		for s := range p {
			if q[s].Num == "0" {
				continue
			}
			if x := less(one, new(big.Rat).Quo(ratOf(p[s]), ratOf(q[s]))); x.Cmp(worst) > 0 {
				worst = x
			}
		}
		x, got := impl.SeparationOf(p, q)
		isFraction(t, "separation", worst, x, got)
		distance, _ := impl.DistanceOf(p, q)
		same(t, "at least the distance", worst.Cmp(ratOf(distance)) >= 0, true)
	}
}

func TestDistanceEdges(t *testing.T) {
	for _, one := range []struct {
		name                          string
		p, q                          []impl.Fraction
		distance, overlap, separation string
		event                         []int64
	}{
		{"one state", fracs("1"), fracs("1"), "0", "1", "0", nil},
		{"equal", fracs("1/3", "2/3", "0"), fracs("1/3", "2/3", "0"), "0", "1", "0", nil},
		{"equal, with many digits", longSpread(300), longSpread(300), "0", "1", "0", nil},
		{"nothing in common", fracs("1/2", "0", "1/2", "0"), fracs("0", "1/3", "0", "2/3"), "1", "0", "1", []int64{0, 2}},
		{"0 on the left", fracs("0", "1"), fracs("1/4", "3/4"), "1/4", "3/4", "1", []int64{1}},
		{"0 on the right", fracs("1/4", "3/4"), fracs("0", "1"), "1/4", "3/4", "1/4", []int64{0}},
		{"0 on both sides", fracs("0", "1/2", "1/2"), fracs("0", "1/4", "3/4"), "1/4", "3/4", "1/3", []int64{1}},
		{"six states", fracs("1/6", "1/6", "1/6", "1/6", "1/6", "1/6"), fracs("0", "0", "0", "0", "0", "1"), "5/6", "1/6", "5/6", []int64{0, 1, 2, 3, 4}},
	} {
		x, got := impl.DistanceOf(one.p, one.q)
		isFraction(t, one.name+": distance", ratOf(frac(one.distance)), x, got)
		x, got = impl.OverlapOf(one.p, one.q)
		isFraction(t, one.name+": overlap", ratOf(frac(one.overlap)), x, got)
		x, got = impl.SeparationOf(one.p, one.q)
		isFraction(t, one.name+": separation", ratOf(frac(one.separation)), x, got)
		event, got := impl.BestEvent(one.p, one.q)
		same(t, one.name+": event", event, one.event)
		same(t, one.name+": code", got, int64(impl.OK))
	}
}

// alikeResults calls the functions that are given two spreads over the same
// states, and returns what they return.
func alikeResults(p, q []impl.Fraction) map[string][2]any {
	distance, one := impl.DistanceOf(p, q)
	overlap, two := impl.OverlapOf(p, q)
	separation, three := impl.SeparationOf(p, q)
	event, four := impl.BestEvent(p, q)
	best, five := impl.BestJoint(p, q)
	return map[string][2]any{
		"DistanceOf": {distance, one}, "OverlapOf": {overlap, two}, "SeparationOf": {separation, three}, "BestEvent": {event, four}, "BestJoint": {best, five},
	}
}

func TestDistanceErrors(t *testing.T) {
	good, other := fracs("1/2", "1/2"), fracs("1/3", "1/3", "1/3")
	for _, bad := range invalidSpreads() {
		for _, q := range [][]impl.Fraction{good, other, bad} {
			for name, results := range alikeResults(bad, q) {
				code(t, name+": p is none", impl.ErrInvalid, results[0], results[1])
			}
			for name, results := range alikeResults(q, bad) {
				code(t, name+": q is none", impl.ErrInvalid, results[0], results[1])
			}
		}
	}
	for _, pair := range [][2][]impl.Fraction{{good, other}, {other, good}, {fracs("1"), fracs("1", "0")}, {longSpread(300), fracs("1/11", "10/11", "0")}} {
		for name, results := range alikeResults(pair[0], pair[1]) {
			code(t, name+": other states", impl.ErrRange, results[0], results[1])
		}
	}
}

func TestDistanceDigits(t *testing.T) {
	long := longSpread(300)
	for name, results := range alikeResults(fracs("1/7", "6/7"), long) {
		code(t, name+": 300 digits", impl.OK, results[0], results[1])
	}
	for name, results := range alikeResults(fracs("1/11", "10/11"), long) {
		want := int64(impl.ErrLimit)
		if name == "BestEvent" {
			want = impl.OK
		}
		code(t, name+": 301 digits", want, results[0], results[1])
	}
	// Num is too long for one number, Den is not: 1 - 1/2 leaves the long ones.
	x, got := impl.DistanceOf(long, fracs("1/2", "1/2"))
	isFraction(t, "half", less(big.NewRat(1, 2), ratOf(long[0])), x, got)
	x, got = impl.SeparationOf(long, fracs("1/11", "10/11"))
	isFraction(t, "separation", less(big.NewRat(1, 1), new(big.Rat).Mul(big.NewRat(11, 1), ratOf(long[0]))), x, got)
}
