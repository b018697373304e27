package tests

import (
	"math"
	"math/big"
	"math/rand"
	"slices"
	"strings"
	"testing"

	"loop.example/g01118/impl"
)

// The tests of this file are about promise 3: spreads and chances.

// longSpread returns a spread of two states with Dens of so many digits.
func longSpread(digits int) []impl.Fraction {
	return fracs("1/"+tenTo(digits-1), nines(digits-1)+"/"+tenTo(digits-1))
}

func invalidSpreads() [][]impl.Fraction {
	return [][]impl.Fraction{
		nil, {}, fracs("0"), fracs("2"), fracs("1/2"), fracs("2/2"), fracs("1/2", "1/3"), fracs("1/2", "2/3"), fracs("1", "1"), fracs("1/2", "2/4"),
		fracs("1/2", "1/2", "0/2"), fracs("1", "x"), fracs("3/2", "-1/2"), {{}}, {{}, {}}, slices.Concat(fracs("1"), []impl.Fraction{{}}),
		fracs("1/7", "1/7", "1/7", "1/7", "1/7", "1/7", "1/7"), fracs("1", "0", "0", "0", "0", "0", "0"),
		fracs("1/"+tenTo(299), nines(299)+"/"+tenTo(299), "1/"+tenTo(299)), fracs("1/"+nines(300), nines(299)+"/"+tenTo(299)),
		slices.Repeat(fracs("0"), 1000000),
	}
}

func TestValidSpread(t *testing.T) {
	for _, p := range [][]impl.Fraction{
		fracs("1"), fracs("1", "0"), fracs("0", "1"), fracs("1/2", "1/2"), fracs("1/2", "1/3", "1/6"), fracs("1/6", "1/6", "1/6", "1/6", "1/6", "1/6"),
		fracs("0", "0", "0", "0", "0", "1"), longSpread(2), longSpread(300), fracs("1/4294967296", "4294967295/4294967296"),
	} {
		same(t, fracTexts(p), impl.ValidSpread(p), true)
	}
	for _, p := range invalidSpreads() {
		same(t, fracTexts(p[:min(len(p), 8)]), impl.ValidSpread(p), false)
	}
	r := rand.New(rand.NewSource(1))
	for range 500 {
		p := randomSpread(r, 1+r.Int63n(impl.MaxStates), 1+r.Int63())
		same(t, fracTexts(p), impl.ValidSpread(p), true)
		at := r.Intn(len(p))
		x, _ := impl.AddFraction(p[at], frac("1/"+tenTo(r.Intn(200))))
		p[at] = x
		same(t, fracTexts(p), impl.ValidSpread(p), false)
	}
}

func TestSureAndEvenSpread(t *testing.T) {
	for states := int64(1); states <= impl.MaxStates; states++ {
		p, got := impl.EvenSpread(states)
		even := big.NewRat(1, states)
		isFractions(t, "even", slices.Repeat([]*big.Rat{even}, int(states)), p, got)
		for s := range states {
			want := slices.Repeat([]impl.Fraction{frac("0")}, int(states))
			want[s] = frac("1")
			p, got := impl.SureSpread(states, s)
			same(t, "sure", p, want)
			same(t, "code", got, int64(impl.OK))
			same(t, "valid", impl.ValidSpread(p), true)
		}
		for _, s := range []int64{-1, states, states + 1, math.MaxInt64, math.MinInt64} {
			p, got := impl.SureSpread(states, s)
			code(t, "no state", impl.ErrRange, p, got)
		}
	}
	for _, states := range []int64{0, -1, impl.MaxStates + 1, math.MaxInt64, math.MinInt64} {
		p, got := impl.EvenSpread(states)
		code(t, "EvenSpread", impl.ErrRange, p, got)
		for _, s := range []int64{0, -1, 6} {
			p, got := impl.SureSpread(states, s)
			code(t, "SureSpread", impl.ErrRange, p, got)
		}
	}
}

func TestMixSpreads(t *testing.T) {
	r := rand.New(rand.NewSource(2))
	for range 500 {
		states := 1 + r.Int63n(impl.MaxStates)
		p, q := randomSpread(r, states, 1+r.Int63()), randomSpread(r, states, 1+r.Int63n(100))
		den := 1 + r.Int63()
		share, _ := impl.FractionOf(r.Int63n(den+1), den)
		want := []*big.Rat{}
		rest := new(big.Rat).Sub(big.NewRat(1, 1), ratOf(share))
		for s := range p {
			left, right := new(big.Rat).Mul(ratOf(p[s]), ratOf(share)), new(big.Rat).Mul(ratOf(q[s]), rest)
			want = append(want, left.Add(left, right))
		}
		mixed, got := impl.MixSpreads(p, q, share)
		isFractions(t, "mixed", want, mixed, got)
		same(t, "a spread", impl.ValidSpread(mixed), true)
	}
	p, q := fracs("1/3", "2/3"), longSpread(300)
	mixed, got := impl.MixSpreads(p, q, frac("1"))
	isFractions(t, "share 1", ratsOf(p), mixed, got)
	mixed, got = impl.MixSpreads(p, q, frac("0"))
	isFractions(t, "share 0", ratsOf(q), mixed, got)
}

func TestMixSpreadsErrors(t *testing.T) {
	good, other, long := fracs("1/2", "1/2"), fracs("1"), longSpread(300)
	for _, bad := range invalidSpreads() {
		for _, q := range [][]impl.Fraction{good, other, long, bad} {
			p, got := impl.MixSpreads(bad, q, frac("2"))
			code(t, "p is none", impl.ErrInvalid, p, got)
			p, got = impl.MixSpreads(q, bad, frac("1/3"))
			code(t, "q is none", impl.ErrInvalid, p, got)
		}
	}
	for _, one := range []struct {
		name  string
		p, q  []impl.Fraction
		share string
		want  int64
	}{
		{"no share", good, other, "2/2", impl.ErrInvalid},
		{"no numeral", good, good, "", impl.ErrInvalid},
		{"a long share", good, good, "1/" + tenTo(300), impl.ErrInvalid},
		{"lengths and share", good, other, "2", impl.ErrRange},
		{"lengths, exchanged", other, good, "1", impl.ErrRange},
		{"a share of more than 1", long, good, "3/2", impl.ErrState},
		{"a share of a little more than 1", good, good, tenTo(299) + "/" + nines(299), impl.ErrState},
		{"300 digits", good, longSpread(299), "1/11", impl.OK},
		{"301 digits", good, long, "1/12", impl.ErrLimit},
		{"301 digits on the left", long, good, "1/11", impl.ErrLimit},
		{"longer on the way", long, good, "1/3", impl.OK},
	} {
		p, got := impl.MixSpreads(one.p, one.q, frac(one.share))
		code(t, one.name, one.want, p, got)
	}
}

// chanceBetween sums up the chances of all ways from s to t.
func chanceBetween(c impl.Chain, s, t, steps int64) *big.Rat {
	if steps == 0 {
		if s == t {
			return big.NewRat(1, 1)
		}
		return new(big.Rat)
	}
	sum := new(big.Rat)
	for between, weight := range c.Weights[s] {
		if weight > 0 {
			rest := chanceBetween(c, int64(between), t, steps-1)
			sum.Add(sum, rest.Mul(rest, big.NewRat(weight, c.Total)))
		}
	}
	return sum
}

// ratsAfter makes steps with the chances of all states at once.
func ratsAfter(c impl.Chain, p []*big.Rat, steps int64) []*big.Rat {
	for range steps {
		next := make([]*big.Rat, len(p))
		for t := range next {
			next[t] = new(big.Rat)
			for s := range p {
				next[t].Add(next[t], new(big.Rat).Mul(p[s], big.NewRat(c.Weights[s][t], c.Total)))
			}
		}
		p = next
	}
	return p
}

func TestChanceAfter(t *testing.T) {
	r := rand.New(rand.NewSource(3))
	for range 300 {
		c := randomChain(r)
		s, u := r.Int63n(c.States), r.Int63n(c.States)
		steps := r.Int63n(5)
		x, got := impl.ChanceAfter(c, s, u, steps)
		isFraction(t, "all ways", chanceBetween(c, s, u, steps), x, got)
		steps = r.Int63n(impl.MaxSteps + 1)
		sure, _ := impl.SureSpread(c.States, s)
		x, got = impl.ChanceAfter(c, s, u, steps)
		isFraction(t, "many steps", ratsAfter(c, ratsOf(sure), steps)[u], x, got)
	}
	for range 100 {
		c := randomChain(r)
		s, u := r.Int63n(c.States), r.Int63n(c.States)
		first := r.Int63n(impl.MaxSteps + 1)
		sum := new(big.Rat)
		for between := range c.States {
			a, _ := impl.ChanceAfter(c, s, between, first)
			b, _ := impl.ChanceAfter(c, between, u, impl.MaxSteps-first)
			sum.Add(sum, new(big.Rat).Mul(ratOf(a), ratOf(b)))
		}
		x, got := impl.ChanceAfter(c, s, u, impl.MaxSteps)
		isFraction(t, "what lies between", sum, x, got)
	}
}

func TestChanceAfterErrors(t *testing.T) {
	c := readChain(t, exampleText)
	for _, one := range [][3]int64{
		{-1, 0, 0}, {2, 0, 0}, {0, -1, 0}, {0, 2, 0}, {0, 0, -1}, {0, 0, impl.MaxSteps + 1}, {0, 0, math.MaxInt64}, {0, 0, math.MinInt64},
		{math.MaxInt64, 0, 0}, {0, math.MinInt64, 1}, {5, 5, 99},
	} {
		x, got := impl.ChanceAfter(c, one[0], one[1], one[2])
		code(t, "ChanceAfter", impl.ErrRange, x, got)
		for name, bad := range invalidChains() {
			x, got := impl.ChanceAfter(bad, one[0], one[1], one[2])
			code(t, name, impl.ErrInvalid, x, got)
		}
	}
	for name, bad := range invalidChains() {
		x, got := impl.ChanceAfter(bad, 0, 0, 0)
		code(t, name, impl.ErrInvalid, x, got)
	}
	x, got := impl.ChanceAfter(c, 1, 1, impl.MaxSteps)
	code(t, "the last step", impl.OK, x, got)
}

func TestSpreadAfter(t *testing.T) {
	r := rand.New(rand.NewSource(4))
	for range 300 {
		c := randomChain(r)
		p := randomSpread(r, c.States, 1+r.Int63())
		steps := r.Int63n(impl.MaxSteps + 1)
		after, got := impl.SpreadAfter(c, p, steps)
		isFractions(t, "after", ratsAfter(c, ratsOf(p), steps), after, got)
		same(t, "a spread", impl.ValidSpread(after), true)
		first := r.Int63n(steps + 1)
		between, _ := impl.SpreadAfter(c, p, first)
		again, got := impl.SpreadAfter(c, between, steps-first)
		same(t, "in two parts", again, after)
		same(t, "code", got, int64(impl.OK))
		none, got := impl.SpreadAfter(c, p, 0)
		same(t, "no step", none, p)
		same(t, "code", got, int64(impl.OK))
	}
}

func TestSpreadAfterErrors(t *testing.T) {
	c, good := readChain(t, exampleText), fracs("1/2", "1/2")
	for _, steps := range []int64{-1, 0, 1, impl.MaxSteps, impl.MaxSteps + 1, math.MaxInt64, math.MinInt64} {
		for _, bad := range invalidSpreads() {
			p, got := impl.SpreadAfter(c, bad, steps)
			code(t, "no spread", impl.ErrInvalid, p, got)
		}
		for name, bad := range invalidChains() {
			p, got := impl.SpreadAfter(bad, good, steps)
			code(t, name, impl.ErrInvalid, p, got)
		}
		for _, other := range [][]impl.Fraction{fracs("1"), fracs("1", "0", "0"), fracs("0", "0", "0", "0", "0", "1")} {
			p, got := impl.SpreadAfter(c, other, steps)
			code(t, "other states", impl.ErrRange, p, got)
		}
		if steps < 0 || steps > impl.MaxSteps {
			p, got := impl.SpreadAfter(c, good, steps)
			code(t, "steps", impl.ErrRange, p, got)
			p, got = impl.SpreadAfter(c, longSpread(300), steps)
			code(t, "steps and length", impl.ErrRange, p, got)
		}
	}
	// Each step makes Den longer by 3, and what cancels out makes it short again.
	thirds := readChain(t, "chain 2 3\nfrom 1 2\nfrom 2 1\n")
	p, got := impl.SpreadAfter(thirds, longSpread(300), 2)
	code(t, "300 digits", impl.OK, p, got)
	p, got = impl.SpreadAfter(thirds, longSpread(300), 3)
	code(t, "301 digits", impl.ErrLimit, p, got)
	p, got = impl.SpreadAfter(readChain(t, "chain 2 2\nfrom 1 1\nfrom 1 1\n"), longSpread(300), impl.MaxSteps)
	code(t, "short again", impl.OK, p, got)
	same(t, "short again", fracTexts(p), "1/2 1/2")
}

// TestLongNumbersOnTheWay has no common divisors in its Dens, so that numbers
// get far longer than in the result.
func TestLongNumbersOnTheWay(t *testing.T) {
	p := []impl.Fraction{}
	rest := big.NewRat(1, 1)
	for i := range 5 {
		den := tenTo(48)[:47] + []string{"03", "07", "09", "21", "33"}[i]
		p = append(p, frac("1/"+den))
		rest.Sub(rest, ratOf(p[i]))
	}
	last, got := ofRat(rest)
	same(t, "code", got, int64(impl.OK))
	p = append(p, last)
	same(t, "valid", impl.ValidSpread(p), true)
	even, _ := impl.EvenSpread(6)
	after, got := impl.SpreadAfter(readChain(t, "chain 6 6\n"+strings.Repeat("from 1 1 1 1 1 1\n", 6)), p, impl.MaxSteps)
	same(t, "after", after, even)
	same(t, "code", got, int64(impl.OK))
	values := []impl.Fraction{}
	for _, x := range p {
		value, _ := impl.DivFraction(frac("1"), x)
		values = append(values, value)
	}
	mean, got := impl.ExpectedValue(p, values)
	isFraction(t, "mean", big.NewRat(6, 1), mean, got)
}

func TestExpectedValue(t *testing.T) {
	r := rand.New(rand.NewSource(5))
	for range 500 {
		p := randomSpread(r, 1+r.Int63n(impl.MaxStates), 1+r.Int63())
		values := []impl.Fraction{}
		sum := new(big.Rat)
		for s := range p {
			value, _ := impl.FractionOf(r.Int63(), 1+r.Int63n(1000))
			values = append(values, value)
			sum.Add(sum, new(big.Rat).Mul(ratOf(p[s]), ratOf(value)))
		}
		mean, got := impl.ExpectedValue(p, values)
		isFraction(t, "mean", sum, mean, got)
	}
	for _, one := range []struct {
		name      string
		p, values []impl.Fraction
		want      int64
	}{
		{"300 digits", fracs("1/2", "1/2"), fracs(nines(300), nines(300)), impl.OK},
		{"301 digits", fracs("1/2", "1/2"), fracs(nines(300), nines(299)+"8"), impl.ErrLimit},
		{"a Den of 300 digits", longSpread(300), fracs("1/7", "0"), impl.OK},
		{"a Den of 301 digits", longSpread(300), fracs("1/11", "0"), impl.ErrLimit},
		{"too few values", longSpread(300), fracs("1/7"), impl.ErrRange},
		{"too many values", fracs("1"), fracs("1", "2"), impl.ErrRange},
		{"no values", fracs("1"), nil, impl.ErrRange},
		{"a bad value too many", fracs("1"), fracs("1", "2/2"), impl.ErrInvalid},
		{"a bad value", fracs("1/2", "1/2"), fracs("1", ""), impl.ErrInvalid},
		{"no spread", nil, nil, impl.ErrInvalid},
		{"many values", fracs("1"), slices.Repeat(fracs("1/2"), 300000), impl.ErrRange},
		{"many values, the last one bad", fracs("1"), append(slices.Repeat(fracs("1/2"), 300000), frac("x")), impl.ErrInvalid},
	} {
		mean, got := impl.ExpectedValue(one.p, one.values)
		code(t, one.name, one.want, mean, got)
	}
	for _, bad := range invalidSpreads() {
		mean, got := impl.ExpectedValue(bad, fracs("1", "2"))
		code(t, "no spread", impl.ErrInvalid, mean, got)
	}
}
