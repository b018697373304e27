package tests

import (
	"math/big"
	"math/rand"
	"slices"
	"testing"

	"loop.example/g01118/impl"
)

// The tests of this file are about promise 13: means, variances and forms of
// functions, and how they are bounded by the conductance.

func TestFunctions(t *testing.T) {
	r := rand.New(rand.NewSource(311))
	kinds := map[string]int{}
	for _, c := range connectedAndRings(r, 1500) {
		p, list := balanceOf(c), randomValues(r, c.States)
		values := ratsOf(list)
		mean, variance, form := meanIn(p, values), varianceIn(p, values), formIn(c, p, values)
		x, meanCode := impl.MeanOf(c, list)
		isFraction(t, "mean", mean, x, meanCode)
		x, varianceCode := impl.VarianceOf(c, list)
		isFraction(t, "variance", variance, x, varianceCode)
		x, formCode := impl.FormOf(c, list)
		isFraction(t, "form", form, x, formCode)
		x, got := impl.GapQuotient(c, list)
		if variance.Sign() == 0 {
			code(t, "a variance of 0", impl.ErrState, x, got)
			same(t, "all alike", len(slices.Compact(slices.Clone(list))), 1)
			kinds["alike"]++
			continue
		}
		isFraction(t, "quotient", new(big.Rat).Quo(form, variance), x, got)
		for name, is := range map[string]bool{
			"mean alone": meanCode == impl.OK && varianceCode != impl.OK, "quotient alone": got == impl.OK && formCode != impl.OK, "all": got == impl.OK && varianceCode == impl.OK,
			"no mean": meanCode != impl.OK, "no quotient": got != impl.OK, "no variance": varianceCode != impl.OK,
		} {
			if is {
				kinds[name]++
			}
		}
	}
	for _, kind := range []string{"alike", "mean alone", "quotient alone", "all", "no mean", "no quotient", "no variance"} {
		if kinds[kind] < 20 {
			t.Error("too few of one kind", kinds)
		}
	}
}

// TestFunctionDigits has results with just as many digits as they can have, and
// one more.
func TestFunctionDigits(t *testing.T) {
	c := readChain(t, "chain 2 2\nfrom 1 1\nfrom 1 1\n")
	square := new(big.Int)
	square.SetString(nines(150), 10)
	square.Mul(square, square)
	for _, one := range []struct {
		name, left, right        string
		mean, variance, quotient string
	}{
		{"a square of 300 digits", "0", "1" + nines(149) + "8", nines(150), square.String(), "1"},
		{"a square of 300 digits, by 4", nines(150), "0", nines(150) + "/2", square.String() + "/4", "1"},
		{"a square of 301 digits", "0", "2" + tenTo(150)[1:], tenTo(150), "limit", "1"},
		{"by a square of 300 digits", "2/" + nines(150), "0", "1/" + nines(150), "1/" + square.String(), "1"},
		{"by a square of 301 digits", "2/" + tenTo(149) + "1", "0", "1/" + tenTo(149) + "1", "limit", "1"},
		{"a difference of 1", nines(299) + "8", nines(300), "limit", "1/4", "1"},
		{"a mean of 300 digits", "0", nines(300), nines(300) + "/2", "limit", "1"},
		{"half of 301 digits", "3", nines(300), "5" + tenTo(298)[1:] + "1", "limit", "1"},
		{"by 301 digits", "1/" + nines(300), "0", "limit", "limit", "1"},
		{"no common divisor", "1/" + tenTo(299), "1/" + nines(300), "limit", "limit", "1"},
		{"alike", nines(300), nines(300), nines(300), "0", "state"},
		{"alike below", "1/" + nines(300), "1/" + nines(300), "1/" + nines(300), "0", "state"},
	} {
		values := fracs(one.left, one.right)
		hasText(t, one.name+": mean", one.mean, impl.MeanOf, c, values)
		hasText(t, one.name+": variance", one.variance, impl.VarianceOf, c, values)
		hasText(t, one.name+": form", one.variance, impl.FormOf, c, values)
		hasText(t, one.name+": quotient", one.quotient, impl.GapQuotient, c, values)
	}
}

// hasText fails the test unless a function returns the fraction with a text, or
// the code with a name.
func hasText(t *testing.T, name, want string, f func(impl.Chain, []impl.Fraction) (impl.Fraction, int64), c impl.Chain, values []impl.Fraction) {
	t.Helper()
	x, got := f(c, values)
	switch want {
	case "limit":
		code(t, name, impl.ErrLimit, x, got)
	case "state":
		code(t, name, impl.ErrState, x, got)
	default:
		same(t, name, impl.FractionText(x), want)
		same(t, name+": code", got, int64(impl.OK))
	}
}

// TestFunctionRules has functions made of others: by adding the same to all
// values, and by multiplying all of them by the same.
func TestFunctionRules(t *testing.T) {
	r := rand.New(rand.NewSource(312))
	for _, c := range connectedAndRings(r, 100) {
		list, moved, scaled := []impl.Fraction{}, []impl.Fraction{}, []impl.Fraction{}
		for range c.States {
			x, _ := impl.FractionOf(r.Int63n(30), 1+r.Int63n(9))
			more, _ := impl.AddFraction(x, frac("17/5"))
			times, _ := impl.MulFraction(x, frac("3/2"))
			list, moved, scaled = append(list, x), append(moved, more), append(scaled, times)
		}
		for _, f := range []func(impl.Chain, []impl.Fraction) (impl.Fraction, int64){impl.VarianceOf, impl.FormOf} {
			x, one := f(c, list)
			y, two := f(c, moved)
			z, three := f(c, scaled)
			same(t, "moved", y, x)
			isFraction(t, "scaled", new(big.Rat).Mul(ratOf(x), big.NewRat(9, 4)), z, three)
			same(t, "codes", []int64{one, two}, make([]int64, 2))
		}
		mean, _ := impl.MeanOf(c, list)
		x, got := impl.MeanOf(c, moved)
		isFraction(t, "moved", new(big.Rat).Add(ratOf(mean), big.NewRat(17, 5)), x, got)
		p, _ := impl.StationarySpread(c)
		x, _ = impl.ExpectedValue(p, list)
		same(t, "as expected", mean, x)
	}
}

// TestFunctionOfSet has functions that are 1 on a set: their forms are flows.
func TestFunctionOfSet(t *testing.T) {
	r := rand.New(rand.NewSource(313))
	for _, c := range connectedAndRings(r, 60) {
		for _, set := range everySet(c.States) {
			values := onSet(set, c.States)
			form, one := impl.FormOf(c, values)
			flow, two := impl.FlowBetween(c, set, restOf(set, c.States))
			same(t, "form", form, flow)
			mean, three := impl.MeanOf(c, values)
			chance, four := impl.FlowBetween(c, set, wholeOf(c))
			same(t, "mean", mean, chance)
			variance, five := impl.VarianceOf(c, values)
			rest, _ := impl.LessFraction(frac("1"), mean)
			product, _ := impl.MulFraction(mean, rest)
			same(t, "variance", variance, product)
			same(t, "codes", []int64{one, two, three, four, five}, make([]int64, 5))
		}
	}
}

// TestGapRange checks the range, and that it bounds the quotients of functions.
func TestGapRange(t *testing.T) {
	r := rand.New(rand.NewSource(314))
	kinds := map[string]int{}
	for _, c := range connectedAndRings(r, 400) {
		low, high, got := impl.GapRange(c)
		if c.States == 1 || !isBalanced(c) {
			code(t, "GapRange", impl.ErrState, low, high, got)
			kinds["none"]++
			continue
		}
		kinds["some"]++
		least, set, _ := leastCut(c)
		isFraction(t, "low", new(big.Rat).Mul(big.NewRat(1, 2), new(big.Rat).Mul(least, least)), low, got)
		isFraction(t, "high", new(big.Rat).Mul(big.NewRat(2, 1), least), high, got)
		x, got := impl.GapQuotient(c, onSet(set, c.States))
		same(t, "code", got, int64(impl.OK))
		same(t, "not more than high", ratOf(x).Cmp(ratOf(high)) <= 0, true)
		for range 10 {
			x, got := impl.GapQuotient(c, randomValues(r, c.States))
			if got == impl.OK {
				same(t, "not less than low", ratOf(x).Cmp(ratOf(low)) >= 0, true)
				kinds["bounded"]++
			}
		}
	}
	if kinds["none"] < 50 || kinds["some"] < 50 || kinds["bounded"] < 500 {
		t.Error("too few of one kind", kinds)
	}
}

func TestOneStateFunctions(t *testing.T) {
	c := readChain(t, "chain 1 3\nfrom 3\n")
	for _, values := range [][]impl.Fraction{fracs("0"), fracs("2/3"), fracs(nines(300)), fracs("1/" + nines(300))} {
		x, got := impl.MeanOf(c, values)
		same(t, "mean", x, values[0])
		same(t, "code", got, int64(impl.OK))
		x, got = impl.VarianceOf(c, values)
		isFraction(t, "variance", new(big.Rat), x, got)
		x, got = impl.FormOf(c, values)
		isFraction(t, "form", new(big.Rat), x, got)
		x, got = impl.GapQuotient(c, values)
		code(t, "quotient", impl.ErrState, x, got)
	}
}

func functionCodes(t *testing.T, name string, want int64, c impl.Chain, values []impl.Fraction) {
	t.Helper()
	for _, f := range []func(impl.Chain, []impl.Fraction) (impl.Fraction, int64){impl.MeanOf, impl.VarianceOf, impl.FormOf, impl.GapQuotient} {
		x, got := f(c, values)
		code(t, name, want, x, got)
	}
}

func TestFunctionErrors(t *testing.T) {
	for name, bad := range invalidChains() {
		for _, values := range append(badValues(), fracs("0"), fracs("0", "1"), nil) {
			functionCodes(t, name, impl.ErrInvalid, bad, values)
		}
	}
	for _, c := range []impl.Chain{readChain(t, exampleCuts), readChain(t, twoEnds), walkOn(3, 2, 1)} {
		for _, values := range badValues() {
			functionCodes(t, "no fractions", impl.ErrInvalid, c, values)
		}
		for _, values := range otherCounts() {
			functionCodes(t, "another count", impl.ErrRange, c, values)
		}
	}
	for _, c := range parted(t) {
		functionCodes(t, "not connected", impl.ErrState, c, slices.Repeat(fracs("1"), int(c.States)))
		functionCodes(t, "not connected", impl.ErrState, c, fracs("0", "1", "2", "3", "4", "5")[:c.States])
		functionCodes(t, "not connected, too long", impl.ErrState, c, fracs("1/"+tenTo(299), "1/"+nines(300), "0", "0", "0", "0")[:c.States])
	}
}
