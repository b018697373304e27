package tests

import (
	"math"
	"math/big"
	"math/rand"
	"slices"
	"testing"

	"loop.example/g01118/impl"
)

// The tests of this file are about promise 8: prices.

// rightOf returns the greatest right prices for left ones.
func rightOf(left []int64, costs [][]int64) []int64 {
	list := []int64{}
	for u := range costs[0] {
		least := int64(math.MaxInt64)
		for s := range left {
			least = min(least, costs[s][u]-left[s])
		}
		list = append(list, least)
	}
	return list
}

// worthOf returns what prices show, times the whole.
func worthOf(left, right, leftPrices, rightPrices []int64) int64 {
	sum := int64(0)
	for s, price := range leftPrices {
		sum += left[s] * price
	}
	for u, price := range rightPrices {
		sum += right[u] * price
	}
	return sum
}

// arePrices reports whether lists are prices.
func arePrices(left, right []int64, costs [][]int64) bool {
	for s, price := range left {
		for u, other := range right {
			if max(price, other) > impl.MaxCost || min(price, other) < -impl.MaxCost || price+other > costs[s][u] {
				return false
			}
		}
	}
	return true
}

// countDown calls see for all lists of so many numbers from least to 0.
func countDown(count int, least int64, see func([]int64)) {
	list := slices.Repeat([]int64{least}, count)
	for at := 0; at < count; {
		see(list)
		for at = 0; at < count; at++ {
			list[at]++
			if list[at] <= 0 {
				break
			}
			list[at] = least
		}
	}
}

// TestFindPricesOfAll looks for the greatest prices among all of them. Prices of
// less than minus the greatest cost are never needed.
func TestFindPricesOfAll(t *testing.T) {
	r := rand.New(rand.NewSource(101))
	for range 400 {
		lefts, rights, whole := 1+r.Int63n(4), 1+r.Int63n(4), 1+r.Int63n(12)
		left, right := randomSides(r, lefts, rights, whole)
		costs := flatCosts(int(lefts), int(rights), 0)
		for _, row := range costs {
			for u := range row {
				row[u] = r.Int63n(5)
			}
		}
		best, greatest := int64(math.MinInt64), []int64{}
		countDown(int(lefts), -6, func(prices []int64) {
			worth := worthOf(left, right, prices, rightOf(prices, costs))
			if worth > best {
				best, greatest = worth, slices.Clone(prices)
			} else if worth == best {
				for s, price := range prices {
					greatest[s] = max(greatest[s], price)
				}
			}
		})
		p, q := partsOf(left), partsOf(right)
		gotLeft, gotRight, got := impl.FindPrices(p, q, costs)
		same(t, "left", gotLeft, greatest)
		same(t, "right", gotRight, rightOf(greatest, costs))
		same(t, "code", got, int64(impl.OK))
		x, got := impl.LeastCost(p, q, costs)
		isFraction(t, "what prices show is the least cost", big.NewRat(best, whole), x, got)
	}
}

// isGreatest fails the test if some left prices could be raised together.
func isGreatest(t *testing.T, left, right, prices []int64, costs [][]int64) {
	t.Helper()
	best := worthOf(left, right, prices, rightOf(prices, costs))
	for _, set := range setsOf(int64(len(prices))) {
		raised, canRaise := slices.Clone(prices), true
		for _, s := range set {
			raised[s]++
			canRaise = canRaise && raised[s] <= 0
		}
		if canRaise && worthOf(left, right, raised, rightOf(raised, costs)) >= best {
			t.Errorf("%v and %v, costs %v: the prices %v can be raised to %v", left, right, costs, prices, raised)
		}
	}
}

func TestFindPrices(t *testing.T) {
	r := rand.New(rand.NewSource(102))
	for range 400 {
		lefts, rights, whole := 1+r.Int63n(6), 1+r.Int63n(6), 1+r.Int63n(1000)
		left, right := randomSides(r, lefts, rights, whole)
		costs := randomCosts(r, lefts, rights, []int64{1, 2, 3, 5, 1001}[r.Intn(5)])
		p, q := partsOf(left), partsOf(right)
		gotLeft, gotRight, got := impl.FindPrices(p, q, costs)
		same(t, "code", got, int64(impl.OK))
		same(t, "prices", arePrices(gotLeft, gotRight, costs), true)
		same(t, "at most 0", slices.Max(gotLeft) <= 0, true)
		same(t, "right", gotRight, rightOf(gotLeft, costs))
		isGreatest(t, left, right, gotLeft, costs)
		least, _ := impl.LeastCost(p, q, costs)
		x, got := impl.PriceBound(p, q, costs, gotLeft, gotRight)
		same(t, "shows the least cost", x, least)
		same(t, "code", got, int64(impl.OK))
		j, _ := impl.CheapestJoint(p, q, costs)
		cost, _ := impl.JointCost(j, costs)
		same(t, "which the cheapest one has", cost, least)
	}
}

func TestPriceBound(t *testing.T) {
	r := rand.New(rand.NewSource(103))
	counts := map[int64]int{}
	for range 2000 {
		lefts, rights, whole := 1+r.Int63n(6), 1+r.Int63n(6), 1+r.Int63n(100)
		left, right := randomSides(r, lefts, rights, whole)
		costs := randomCosts(r, lefts, rights, 1+r.Int63n(1001))
		prices, others := []int64{}, []int64{}
		for range lefts {
			prices = append(prices, r.Int63n(400)-200)
		}
		for _, price := range rightOf(prices, costs) {
			others = append(others, price-r.Int63n(2)*r.Int63n(300)+r.Int63n(2)*r.Int63n(2))
		}
		worth, want := worthOf(left, right, prices, others), int64(impl.OK)
		switch {
		case slices.Max(others) > impl.MaxCost:
			want = impl.ErrRange
		case !arePrices(prices, others, costs):
			want = impl.ErrProof
		case worth < 0:
			want = impl.ErrState
		}
		p, q := partsOf(left), partsOf(right)
		x, got := impl.PriceBound(p, q, costs, prices, others)
		code(t, "PriceBound", want, x, got)
		counts[want]++
		if want != impl.OK {
			continue
		}
		isFraction(t, "bound", big.NewRat(worth, whole), x, got)
		cost, _ := impl.JointCost(jointOfParts(filledParts(r, left, right), whole), costs)
		same(t, "no coupling costs less", ratOf(x).Cmp(ratOf(cost)) <= 0, true)
	}
	if counts[impl.OK] < 100 || counts[impl.ErrProof] < 100 || counts[impl.ErrState] < 100 {
		t.Error("too few cases of a kind", counts)
	}
}

func TestFindPricesEdges(t *testing.T) {
	const most = impl.MaxCost
	half, quarter := fracs("1/2", "1/2"), fracs("1/4", "3/4")
	for _, one := range []struct {
		name        string
		p, q        []impl.Fraction
		costs       [][]int64
		left, right []int64
	}{
		{"one state", fracs("1"), fracs("1"), [][]int64{{most}}, []int64{0}, []int64{most}},
		{"equal spreads", half, half, apartCosts(2, most), []int64{0, 0}, []int64{0, 0}},
		{"one price at -MaxCost", half, quarter, apartCosts(2, most), []int64{0, -most}, []int64{0, most}},
		{"the other one", quarter, half, apartCosts(2, most), []int64{-most, 0}, []int64{most, 0}},
		{"all equal", half, quarter, flatCosts(2, 2, 7), []int64{0, 0}, []int64{7, 7}},
		{"costs of 0", half, quarter, flatCosts(2, 2, 0), []int64{0, 0}, []int64{0, 0}},
		{"costs of MaxCost", half, quarter, flatCosts(2, 2, most), []int64{0, 0}, []int64{most, most}},
		{"a chance of 0 on the left", fracs("0", "1"), quarter, [][]int64{{0, 5}, {3, 9}}, []int64{-4, 0}, []int64{3, 9}},
		{"another one", fracs("1", "0"), quarter, [][]int64{{3, 9}, {0, 5}}, []int64{0, -4}, []int64{3, 9}},
		{"one that offers nothing", fracs("1", "0"), quarter, [][]int64{{0, 5}, {3, 9}}, []int64{0, 0}, []int64{0, 5}},
		{"a chance of 0 on the right", half, fracs("1", "0"), [][]int64{{2, 6}, {4, 0}}, []int64{-2, 0}, []int64{4, 0}},
		{"many digits", longSpread(300), fracs("1/11", "10/11"), apartCosts(2, 1), []int64{-1, 0}, []int64{1, 0}},
	} {
		left, right, got := impl.FindPrices(one.p, one.q, one.costs)
		same(t, one.name+": left", left, one.left)
		same(t, one.name+": right", right, one.right)
		same(t, one.name+": code", got, int64(impl.OK))
	}
}

func TestPriceBoundErrors(t *testing.T) {
	const most = impl.MaxCost
	p, q, costs := fracs("1/2", "1/2"), fracs("1/4", "3/4"), [][]int64{{0, most}, {most, 0}}
	noSpreads, noCosts := invalidSpreads(), badCosts(2, 2)
	for _, one := range []struct {
		name        string
		costs       [][]int64
		left, right []int64
		want        int64
		bound       string
	}{
		{"prices at their ends", costs, []int64{0, -most}, []int64{0, most}, impl.OK, "250"},
		{"the other ends", costs, []int64{most, 0}, []int64{-most, 0}, impl.OK, "250"},
		{"nothing", costs, []int64{0, 0}, []int64{0, 0}, impl.OK, "0"},
		{"less than the least cost", costs, []int64{3, -3}, []int64{-3, 3}, impl.OK, "3/2"},
		{"a sum below 0", costs, []int64{-1, 0}, []int64{-1, 0}, impl.ErrState, ""},
		{"a sum of just 0", flatCosts(2, 2, 9), []int64{-2, -4}, []int64{-3, 5}, impl.OK, "0"},
		{"all at -MaxCost", costs, []int64{-most, -most}, []int64{-most, -most}, impl.ErrState, ""},
		{"all at MaxCost", costs, []int64{most, most}, []int64{most, most}, impl.ErrProof, ""},
		{"1 too much", costs, []int64{0, 0}, []int64{0, 1}, impl.ErrProof, ""},
		{"1 too much, a sum below 0", costs, []int64{1, -most}, []int64{0, 0}, impl.ErrProof, ""},
		{"below -MaxCost", costs, []int64{-most - 1, 0}, []int64{0, 0}, impl.ErrRange, ""},
		{"below -MaxCost on the right", costs, []int64{0, 0}, []int64{0, -most - 1}, impl.ErrRange, ""},
		{"above MaxCost", costs, []int64{0, most + 1}, []int64{0, 0}, impl.ErrRange, ""},
		{"above MaxCost on the right", costs, []int64{5, 5}, []int64{most + 1, 5}, impl.ErrRange, ""},
		{"the least number", costs, []int64{0, math.MinInt64}, []int64{0, 0}, impl.ErrRange, ""},
		{"the greatest numbers", costs, []int64{math.MaxInt64, 0}, []int64{math.MaxInt64, 0}, impl.ErrRange, ""},
		{"too few on the left", costs, []int64{5}, []int64{5, 5}, impl.ErrRange, ""},
		{"too many on the left", costs, []int64{5, 5, 5}, []int64{5, 5}, impl.ErrRange, ""},
		{"too few on the right", costs, []int64{0, 0}, []int64{0}, impl.ErrRange, ""},
		{"too many on the right", costs, []int64{0, 0}, []int64{0, 0, 0}, impl.ErrRange, ""},
		{"none", costs, nil, nil, impl.ErrRange, ""},
		{"very many", costs, make([]int64, 1000000), []int64{0, 0}, impl.ErrRange, ""},
	} {
		x, got := impl.PriceBound(p, q, one.costs, one.left, one.right)
		code(t, one.name, one.want, x, got)
		if one.want == impl.OK {
			same(t, one.name, impl.FractionText(x), one.bound)
		}
		for _, bad := range noSpreads {
			x, got = impl.PriceBound(bad, q, one.costs, one.left, one.right)
			code(t, one.name+" and no spread", impl.ErrInvalid, x, got)
			x, got = impl.PriceBound(p, bad, one.costs, one.left, one.right)
			code(t, one.name+" and no spread", impl.ErrInvalid, x, got)
		}
		for _, bad := range noCosts {
			x, got = impl.PriceBound(p, q, bad, one.left, one.right)
			code(t, one.name+" and no costs", impl.ErrRange, x, got)
		}
	}
	// The sum has 301 digits: it is less than 0, no sum of prices, or too long.
	long, elevenths := longSpread(300), fracs("1/11", "10/11")
	x, got := impl.PriceBound(long, elevenths, apartCosts(2, 1), []int64{-1, 0}, []int64{0, 0})
	code(t, "less than 0", impl.ErrState, x, got)
	x, got = impl.PriceBound(long, elevenths, apartCosts(2, 1), []int64{1, 0}, []int64{0, 0})
	code(t, "no prices", impl.ErrProof, x, got)
	x, got = impl.PriceBound(long, elevenths, apartCosts(2, 1), []int64{1, 0}, []int64{-1, 0})
	code(t, "just less than 0", impl.ErrState, x, got)
	x, got = impl.PriceBound(long, elevenths, apartCosts(2, 1), []int64{0, 1}, []int64{0, -1})
	code(t, "too long", impl.ErrLimit, x, got)
}
