package tests

import (
	"math"
	"math/big"
	"testing"

	"loop.example/g01118/impl"
)

// The tests of this file are about promise 17: draws until every kind is there.

func badKinds() []int64 { return []int64{0, -1, impl.MaxKinds + 1, math.MaxInt64, math.MinInt64} }

// collectedIn leaves out the draws that do not contain some kinds, and takes those
// back that it has left out twice.
func collectedIn(kinds, draws int64) *big.Rat {
	sum := new(big.Int)
	for left := range kinds + 1 {
		ways := new(big.Int).Exp(big.NewInt(kinds-left), big.NewInt(draws), nil)
		ways.Mul(ways, new(big.Int).Binomial(kinds, left))
		if left%2 == 1 {
			ways.Neg(ways)
		}
		sum.Add(sum, ways)
	}
	return new(big.Rat).SetFrac(sum, new(big.Int).Exp(big.NewInt(kinds), big.NewInt(draws), nil))
}

func TestCollectorChance(t *testing.T) {
	for kinds := int64(1); kinds <= impl.MaxKinds; kinds++ {
		last := new(big.Rat)
		for draws := range int64(impl.MaxSteps + 1) {
			x, got := impl.CollectorChance(kinds, draws)
			isFraction(t, "chance", collectedIn(kinds, draws), x, got)
			switch {
			case draws < kinds:
				same(t, "too few draws", x, frac("0"))
			case ratOf(x).Cmp(last) < 0:
				t.Error("less than before", kinds, draws)
			}
			last = ratOf(x)
		}
	}
}

// TestCollectorChanceOfAll looks at all draws.
func TestCollectorChanceOfAll(t *testing.T) {
	for kinds := int64(1); kinds <= 4; kinds++ {
		for draws := range int64(7) {
			whole, full := int64(1), int64(0)
			for range draws {
				whole *= kinds
			}
			for number := range whole {
				found := map[int64]bool{}
				for rest, draw := number, int64(0); draw < draws; rest, draw = rest/kinds, draw+1 {
					found[rest%kinds] = true
				}
				if int64(len(found)) == kinds {
					full++
				}
			}
			x, got := impl.CollectorChance(kinds, draws)
			isFraction(t, "chance", big.NewRat(full, whole), x, got)
		}
	}
}

func TestCollectorTime(t *testing.T) {
	for kinds := int64(1); kinds <= impl.MaxKinds; kinds++ {
		want := new(big.Rat)
		for kind := int64(1); kind <= kinds; kind++ {
			want.Add(want, big.NewRat(kinds, kind))
		}
		time, got := impl.CollectorTime(kinds)
		isFraction(t, "time", want, time, got)
		// The time is the sum of what the chances lack to 1: that of the first draws is less.
		sum := new(big.Rat)
		for draws := range int64(impl.MaxSteps + 1) {
			x, _ := impl.CollectorChance(kinds, draws)
			sum.Add(sum, less(big.NewRat(1, 1), ratOf(x)))
		}
		same(t, "the first draws", sum.Cmp(want) < 0, kinds > 1)
		near, _ := less(want, sum).Float64()
		if near > 4 || kinds < 5 && near > 1e-3 {
			t.Error("far from the time", kinds, near)
		}
	}
	for kinds, want := range map[int64]string{1: "1", 2: "3", 3: "11/2", 4: "25/3", 12: "86021/2310"} {
		time, got := impl.CollectorTime(kinds)
		hasOne(t, "time", want, time, got)
	}
}

func TestCollectorEdges(t *testing.T) {
	for _, one := range []struct {
		kinds, draws int64
		want         string
	}{
		{1, 0, "0"}, {1, 1, "1"}, {1, impl.MaxSteps, "1"}, {2, 0, "0"}, {2, 1, "0"}, {2, 2, "1/2"}, {2, 3, "3/4"}, {2, 40, "549755813887/549755813888"}, {3, 2, "0"}, {3, 3, "2/9"},
		{12, 11, "0"}, {12, 12, "1925/35831808"}, {12, 0, "0"},
	} {
		x, got := impl.CollectorChance(one.kinds, one.draws)
		hasOne(t, "chance", one.want, x, got)
	}
	for _, kinds := range badKinds() {
		time, got := impl.CollectorTime(kinds)
		code(t, "kinds", impl.ErrRange, time, got)
		for _, draws := range append(noMapSteps(), 0, 1, impl.MaxSteps) {
			x, got := impl.CollectorChance(kinds, draws)
			code(t, "kinds", impl.ErrRange, x, got)
		}
	}
	for _, draws := range noMapSteps() {
		for kinds := int64(1); kinds <= impl.MaxKinds; kinds++ {
			x, got := impl.CollectorChance(kinds, draws)
			code(t, "draws", impl.ErrRange, x, got)
		}
	}
}

// TestTopAndCollector compares the shuffle of the top card with draws of kinds,
// from any deck.
func TestTopAndCollector(t *testing.T) {
	fewer := 0
	for cards := int64(1); cards <= impl.MaxCards; cards++ {
		c, _ := impl.ShuffleChain(cards, impl.ShTop)
		for s := range c.States {
			sure, _ := impl.SureSpread(c.States, s)
			for draws := range int64(impl.MaxTimes) {
				stops, one := impl.StrongStops(c, sure, draws+1)
				left, two := impl.LeftOver(c, sure, stops)
				x, three := impl.CollectorChance(cards, draws)
				lack, four := impl.LessFraction(frac("1"), x)
				same(t, "codes", []int64{one, two, three, four}, make([]int64, 4))
				compared := sumFractions(left).Cmp(ratOf(lack))
				same(t, "not more", compared <= 0, true)
				if compared < 0 {
					fewer++
				}
			}
		}
	}
	if fewer == 0 {
		t.Error("never less")
	}
}
