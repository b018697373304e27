package tests

import (
	"math/big"
	"math/rand"
	"slices"
	"testing"

	"loop.example/g01118/impl"
)

// The tests of this file are about promise 7: joint spreads and how often they
// meet.

func TestValidJoint(t *testing.T) {
	r := rand.New(rand.NewSource(71))
	for _, j := range [][][]impl.Fraction{
		jointOf("1"), jointOf("1 0"), jointOf("0", "1"), jointOf("1/2 0 1/4", "0 1/4 0"), {longSpread(300)}, jointOf("0 0 0 0 0 1"),
		slices.Repeat(jointOf("1/36 1/36 1/36 1/36 1/36 1/36"), 6),
	} {
		same(t, "valid", impl.ValidJoint(j), true)
	}
	for name, j := range invalidJoints() {
		same(t, name, impl.ValidJoint(j), false)
	}
	for range 300 {
		j := randomJoint(r, 1+r.Int63n(6), 1+r.Int63n(6))
		same(t, "valid", impl.ValidJoint(j), true)
		row := j[r.Intn(len(j))]
		at := r.Intn(len(row))
		row[at], _ = impl.AddFraction(row[at], frac("1/"+tenTo(r.Intn(200))))
		same(t, "more than 1", impl.ValidJoint(j), false)
	}
}

func TestSidesOfJoint(t *testing.T) {
	r := rand.New(rand.NewSource(72))
	for range 400 {
		j := randomJoint(r, 1+r.Int63n(6), 1+r.Int63n(6))
		table := ratTable(j)
		left, got := impl.LeftOf(j)
		isFractions(t, "left", rowSums(table), left, got)
		right, got := impl.RightOf(j)
		isFractions(t, "right", rowSums(turnedTable(table)), right, got)
		turned, got := impl.TurnJoint(j)
		isTable(t, "turned", turnedTable(table), turned, got)
		isCoupling(t, "turned", turned, right, left)
		back, _ := impl.TurnJoint(turned)
		same(t, "turned twice", back, j)
		met, got := impl.MeetChance(j)
		if len(j) != len(j[0]) {
			code(t, "not square", impl.ErrState, met, got)
			continue
		}
		diagonal := []*big.Rat{}
		for s, row := range table {
			diagonal = append(diagonal, row[s])
		}
		isFraction(t, "met", sumOf(diagonal), met, got)
		overlap := overlapOf(left, right)
		same(t, "at most the overlap", ratOf(met).Cmp(overlap) <= 0, true)
	}
}

func TestApartJoint(t *testing.T) {
	r := rand.New(rand.NewSource(73))
	for range 200 {
		p, q := randomSpread(r, 1+r.Int63n(6), 1+r.Int63n(100)), randomSpread(r, 1+r.Int63n(6), 1+r.Int63n(100))
		want := zeroTable(len(p), len(q))
		for s := range p {
			for u := range q {
				want[s][u].Mul(ratOf(p[s]), ratOf(q[u]))
			}
		}
		j, got := impl.ApartJoint(p, q)
		isTable(t, "apart", want, j, got)
		isCoupling(t, "apart", j, p, q)
	}
}

// bestTable follows the words of the document for BestJoint.
func bestTable(p, q []*big.Rat) [][]*big.Rat {
	table, apart := zeroTable(len(p), len(q)), new(big.Rat)
	for s := range p {
		apart.Add(apart, less(p[s], lesserRat(p[s], q[s])))
	}
	for s := range p {
		for u := range q {
			if s == u {
				table[s][u].Set(lesserRat(p[s], q[s]))
			} else if apart.Sign() > 0 {
				table[s][u].Mul(less(p[s], lesserRat(p[s], q[s])), less(q[u], lesserRat(p[u], q[u])))
				table[s][u].Quo(table[s][u], apart)
			}
		}
	}
	return table
}

func TestBestJoint(t *testing.T) {
	for _, pair := range alikeSpreads(rand.New(rand.NewSource(74)), 400) {
		p, q := pair[0], pair[1]
		j, got := impl.BestJoint(p, q)
		isTable(t, "best", bestTable(ratsOf(p), ratsOf(q)), j, got)
		isCoupling(t, "best", j, p, q)
		met, _ := impl.MeetChance(j)
		overlap, _ := impl.OverlapOf(p, q)
		same(t, "meets as often as it can", met, overlap)
	}
}

// TestMeetChanceOfAll has couplings of all kinds, none of which meets more often
// than the best one.
func TestMeetChanceOfAll(t *testing.T) {
	r := rand.New(rand.NewSource(75))
	for range 200 {
		states, whole := 1+r.Int63n(6), 1+r.Int63n(40)
		left, right := randomSides(r, states, states, whole)
		p, q := partsOf(left), partsOf(right)
		apart, _ := impl.ApartJoint(p, q)
		stair, _ := impl.StairJoint(p, q)
		overlap, _ := impl.OverlapOf(p, q)
		for _, j := range [][][]impl.Fraction{
			apart, stair, jointOfParts(filledParts(r, left, right), whole), jointOfParts(filledParts(r, left, right), whole),
		} {
			isCoupling(t, "any", j, p, q)
			met, got := impl.MeetChance(j)
			same(t, "code", got, int64(impl.OK))
			same(t, "at most the overlap", ratOf(met).Cmp(ratOf(overlap)) <= 0, true)
		}
	}
}

// chosen returns the state that a draw chooses from parts.
func chosen(parts []int64, draw int64) int {
	s := 0
	for draw >= parts[s] {
		draw -= parts[s]
		s++
	}
	return s
}

func TestStairJoint(t *testing.T) {
	r := rand.New(rand.NewSource(76))
	for range 300 {
		whole := 1 + r.Int63n(200)
		left, right := randomSides(r, 1+r.Int63n(6), 1+r.Int63n(6), whole)
		counts := flatCosts(len(left), len(right), 0)
		for draw := range whole {
			counts[chosen(left, draw)][chosen(right, draw)]++
		}
		j, got := impl.StairJoint(partsOf(left), partsOf(right))
		isTable(t, "by draws", ratTable(jointOfParts(counts, whole)), j, got)
		isCoupling(t, "stair", j, partsOf(left), partsOf(right))
	}
}

func TestJointEdges(t *testing.T) {
	for _, one := range []struct {
		name               string
		p, q               []impl.Fraction
		apart, stair, best [][]impl.Fraction
	}{
		{"one state", fracs("1"), fracs("1"), jointOf("1"), jointOf("1"), jointOf("1")},
		{"one and three", fracs("1"), fracs("1/2", "0", "1/2"), jointOf("1/2 0 1/2"), jointOf("1/2 0 1/2"), nil},
		{"three and one", fracs("1/2", "0", "1/2"), fracs("1"), jointOf("1/2", "0", "1/2"), jointOf("1/2", "0", "1/2"), nil},
		{"equal", fracs("1/2", "1/2"), fracs("1/2", "1/2"), jointOf("1/4 1/4", "1/4 1/4"), jointOf("1/2 0", "0 1/2"), jointOf("1/2 0", "0 1/2")},
		{"chances of 0", fracs("0", "1", "0"), fracs("1/2", "0", "1/2"), jointOf("0 0 0", "1/2 0 1/2", "0 0 0"), jointOf("0 0 0", "1/2 0 1/2", "0 0 0"), jointOf("0 0 0", "1/2 0 1/2", "0 0 0")},
		{"no order in the best one", fracs("1/2", "1/2", "0", "0"), fracs("0", "0", "1/2", "1/2"), jointOf("0 0 1/4 1/4", "0 0 1/4 1/4", "0 0 0 0", "0 0 0 0"), jointOf("0 0 1/2 0", "0 0 0 1/2", "0 0 0 0", "0 0 0 0"), jointOf("0 0 1/4 1/4", "0 0 1/4 1/4", "0 0 0 0", "0 0 0 0")},
	} {
		j, got := impl.ApartJoint(one.p, one.q)
		same(t, one.name+": apart", j, one.apart)
		same(t, one.name+": code", got, int64(impl.OK))
		j, got = impl.StairJoint(one.p, one.q)
		same(t, one.name+": stair", j, one.stair)
		same(t, one.name+": code", got, int64(impl.OK))
		j, got = impl.BestJoint(one.p, one.q)
		if one.best == nil {
			code(t, one.name+": best", impl.ErrRange, j, got)
			continue
		}
		same(t, one.name+": best", j, one.best)
		same(t, one.name+": code", got, int64(impl.OK))
	}
}

func TestJointErrors(t *testing.T) {
	for name, bad := range invalidJoints() {
		left, got := impl.LeftOf(bad)
		code(t, name+": LeftOf", impl.ErrInvalid, left, got)
		right, got := impl.RightOf(bad)
		code(t, name+": RightOf", impl.ErrInvalid, right, got)
		met, got := impl.MeetChance(bad)
		code(t, name+": MeetChance", impl.ErrInvalid, met, got)
		turned, got := impl.TurnJoint(bad)
		code(t, name+": TurnJoint", impl.ErrInvalid, turned, got)
	}
	for _, j := range [][][]impl.Fraction{jointOf("1 0"), jointOf("0", "1"), jointOf("1/2 0 0", "0 1/2 0"), {longSpread(300)}} {
		met, got := impl.MeetChance(j)
		code(t, "not square", impl.ErrState, met, got)
	}
	for _, bad := range invalidSpreads() {
		for _, q := range [][]impl.Fraction{fracs("1/2", "1/2"), bad} {
			j, got := impl.ApartJoint(bad, q)
			code(t, "ApartJoint", impl.ErrInvalid, j, got)
			j, got = impl.ApartJoint(q, bad)
			code(t, "ApartJoint", impl.ErrInvalid, j, got)
			j, got = impl.StairJoint(bad, q)
			code(t, "StairJoint", impl.ErrInvalid, j, got)
			j, got = impl.StairJoint(q, bad)
			code(t, "StairJoint", impl.ErrInvalid, j, got)
		}
	}
}

// longJoint has chances of at most 160 digits, but chances of 318 digits on the
// left. The pair of both states 0 and the one of both states 1 have such a sum,
// too.
func longJoint() [][]impl.Fraction {
	a, b := ratOf(frac("1/"+tenTo(159))), ratOf(frac("1/"+nines(159)))
	half := big.NewRat(1, 2)
	j, _ := ofTable([][]*big.Rat{{a, b}, {less(half, a), less(half, b)}})
	return j
}

func TestJointDigits(t *testing.T) {
	j := longJoint()
	same(t, "valid", impl.ValidJoint(j), true)
	left, got := impl.LeftOf(j)
	code(t, "LeftOf", impl.ErrLimit, left, got)
	right, got := impl.RightOf(j)
	same(t, "RightOf", fracTexts(right), "1/2 1/2")
	same(t, "code", got, int64(impl.OK))
	turned, got := impl.TurnJoint(j)
	isTable(t, "TurnJoint", turnedTable(ratTable(j)), turned, got)
	right, got = impl.RightOf(turned)
	code(t, "RightOf", impl.ErrLimit, right, got)
	met, got := impl.MeetChance(j)
	code(t, "MeetChance", impl.ErrLimit, met, got)
	met, got = impl.MeetChance(append([][]impl.Fraction{j[0]}, append(j[1:], fracs("0", "0"))...))
	code(t, "MeetChance, not square", impl.ErrState, met, got)
	for _, one := range []struct {
		p, q        []impl.Fraction
		apart, rest int64
	}{
		{longSpread(150), longSpread(151), impl.OK, impl.OK},
		{longSpread(151), longSpread(151), impl.ErrLimit, impl.OK},
		{longSpread(300), fracs("1"), impl.OK, impl.ErrRange},
		{longSpread(300), fracs("1/7", "6/7"), impl.OK, impl.OK},
		{longSpread(300), fracs("1/11", "10/11"), impl.ErrLimit, impl.ErrLimit},
	} {
		x, got := impl.ApartJoint(one.p, one.q)
		code(t, "ApartJoint", one.apart, x, got)
		x, got = impl.BestJoint(one.p, one.q)
		code(t, "BestJoint", one.rest, x, got)
		x, got = impl.StairJoint(one.p, one.q)
		if one.rest == impl.ErrRange {
			same(t, "StairJoint", x, [][]impl.Fraction{one.p[:1], one.p[1:]})
			continue
		}
		code(t, "StairJoint", one.rest, x, got)
	}
}

func TestExampleOfChapter3(t *testing.T) {
	p, q, costs := fracs("1/2", "1/2"), fracs("1/4", "3/4"), [][]int64{{0, 4}, {2, 0}}
	x, got := impl.DistanceOf(p, q)
	isFraction(t, "distance", big.NewRat(1, 4), x, got)
	x, got = impl.SeparationOf(p, q)
	isFraction(t, "separation", big.NewRat(1, 3), x, got)
	j, got := impl.BestJoint(p, q)
	same(t, "best", j, jointOf("1/4 1/4", "0 1/2"))
	same(t, "code", got, int64(impl.OK))
	j, got = impl.ApartJoint(p, q)
	same(t, "apart", j, jointOf("1/8 3/8", "1/8 3/8"))
	same(t, "code", got, int64(impl.OK))
	x, got = impl.LeastCost(p, q, costs)
	isFraction(t, "least", big.NewRat(1, 1), x, got)
	left, right, got := impl.FindPrices(p, q, costs)
	same(t, "left", left, []int64{0, -4})
	same(t, "right", right, []int64{0, 4})
	same(t, "code", got, int64(impl.OK))
}
