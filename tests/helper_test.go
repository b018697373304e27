package tests

import (
	"math/big"
	"math/rand"
	"reflect"
	"strings"
	"testing"

	"loop.example/g01118/impl"
)

// same fails the test unless both are deeply equal; nil and empty slices are.
func same(t *testing.T, name string, got, want any) {
	t.Helper()
	g, w := reflect.ValueOf(got), reflect.ValueOf(want)
	if g.Kind() == reflect.Slice && w.Kind() == reflect.Slice && g.Len() == 0 && w.Len() == 0 {
		return
	}
	if !reflect.DeepEqual(got, want) {
		t.Errorf("%s: got %v, want %v", name, got, want)
	}
}

// code fails the test unless the last result is the given code and, if this is
// not OK, all others are zero values.
func code(t *testing.T, name string, want int64, results ...any) {
	t.Helper()
	last := len(results) - 1
	if results[last] != want {
		t.Errorf("%s: got the code %v, want %d", name, results[last], want)
	}
	if results[last] == int64(impl.OK) {
		return
	}
	for _, r := range results[:last] {
		v := reflect.ValueOf(r)
		if !v.IsZero() && !(v.Kind() == reflect.Slice && v.Len() == 0) {
			t.Errorf("%s: got %v with the code %v", name, r, results[last])
		}
	}
}

// frac makes a fraction of a text as it is: "3/4" or "3".
func frac(text string) impl.Fraction {
	num, den, found := strings.Cut(text, "/")
	if !found {
		den = "1"
	}
	return impl.Fraction{Num: num, Den: den}
}

func fracs(texts ...string) []impl.Fraction {
	list := []impl.Fraction{}
	for _, text := range texts {
		list = append(list, frac(text))
	}
	return list
}

func fracTexts(list []impl.Fraction) string {
	texts := []string{}
	for _, x := range list {
		texts = append(texts, impl.FractionText(x))
	}
	return strings.Join(texts, " ")
}

func ratOf(x impl.Fraction) *big.Rat {
	num, okNum := new(big.Int).SetString(x.Num, 10)
	den, okDen := new(big.Int).SetString(x.Den, 10)
	if !okNum || !okDen {
		panic("no fraction: " + x.Num + "/" + x.Den)
	}
	return new(big.Rat).SetFrac(num, den)
}

func ratsOf(list []impl.Fraction) []*big.Rat {
	rats := []*big.Rat{}
	for _, x := range list {
		rats = append(rats, ratOf(x))
	}
	return rats
}

// ofRat returns what a function has to return for a value.
func ofRat(r *big.Rat) (impl.Fraction, int64) {
	x := impl.Fraction{Num: r.Num().String(), Den: r.Denom().String()}
	if len(x.Num) > impl.MaxDigits || len(x.Den) > impl.MaxDigits {
		return impl.Fraction{}, impl.ErrLimit
	}
	return x, impl.OK
}

func ofRats(rats []*big.Rat) ([]impl.Fraction, int64) {
	list := []impl.Fraction{}
	for _, r := range rats {
		x, c := ofRat(r)
		if c != impl.OK {
			return []impl.Fraction{}, c
		}
		list = append(list, x)
	}
	return list, impl.OK
}

// isFraction fails the test unless a function has returned the given value.
func isFraction(t *testing.T, name string, want *big.Rat, got impl.Fraction, gotCode int64) {
	t.Helper()
	x, c := ofRat(want)
	if got != x || gotCode != c {
		t.Errorf("%s: got %v and the code %d, want %v and %d", name, got, gotCode, x, c)
	}
}

func isFractions(t *testing.T, name string, want []*big.Rat, got []impl.Fraction, gotCode int64) {
	t.Helper()
	list, c := ofRats(want)
	same(t, name, append([]impl.Fraction{}, got...), list)
	same(t, name+": code", gotCode, c)
}

func readChain(t *testing.T, text string) impl.Chain {
	t.Helper()
	c, code := impl.ReadChain(text)
	if code != impl.OK {
		t.Fatalf("%q is no chain: %d", text, code)
	}
	return c
}

// randomParts divides total into so many parts, some of which are 0.
func randomParts(r *rand.Rand, parts, total int64) []int64 {
	list := make([]int64, parts)
	for total > 0 {
		part := 1 + r.Int63n(total)
		list[r.Int63n(parts)] += part
		total -= part
	}
	return list
}

func randomChainOf(r *rand.Rand, states, total int64) impl.Chain {
	c := impl.Chain{States: states, Total: total}
	for range states {
		c.Weights = append(c.Weights, randomParts(r, states, total))
	}
	return c
}

func randomChain(r *rand.Rand) impl.Chain {
	return randomChainOf(r, 1+r.Int63n(impl.MaxStates), 1+r.Int63n(impl.MaxTotal))
}

// randomSpread returns a spread whose chances are parts of total.
func randomSpread(r *rand.Rand, states, total int64) []impl.Fraction {
	list := []impl.Fraction{}
	for _, part := range randomParts(r, states, total) {
		x, _ := impl.FractionOf(part, total)
		list = append(list, x)
	}
	return list
}

// invalidChains returns chains that are not valid, each for one reason.
func invalidChains() map[string]impl.Chain {
	const most = 1<<63 - 1
	rows := func(rows ...[]int64) [][]int64 { return rows }
	seven := impl.Chain{States: 7, Total: 1}
	for s := range 7 {
		row := make([]int64, 7)
		row[s] = 1
		seven.Weights = append(seven.Weights, row)
	}
	return map[string]impl.Chain{
		"nothing":           {},
		"no states":         {States: 0, Total: 1},
		"negative states":   {States: -1, Total: 1},
		"seven states":      seven,
		"total 0":           {States: 1, Total: 0, Weights: rows([]int64{0})},
		"total 61":          {States: 1, Total: 61, Weights: rows([]int64{61})},
		"negative total":    {States: 1, Total: -1, Weights: rows([]int64{-1})},
		"a row too few":     {States: 2, Total: 1, Weights: rows([]int64{1, 0})},
		"a row too many":    {States: 1, Total: 1, Weights: rows([]int64{1}, []int64{1})},
		"no rows":           {States: 1, Total: 1},
		"a short row":       {States: 2, Total: 1, Weights: rows([]int64{1, 0}, []int64{1})},
		"a long row":        {States: 2, Total: 1, Weights: rows([]int64{1, 0}, []int64{1, 0, 0})},
		"a negative weight": {States: 2, Total: 3, Weights: rows([]int64{4, -1}, []int64{3, 0})},
		"a hidden negative": {States: 3, Total: 3, Weights: rows([]int64{3, 3, -3}, []int64{3, 0, 0}, []int64{3, 0, 0})},
		"a sum too small":   {States: 2, Total: 3, Weights: rows([]int64{1, 2}, []int64{1, 1})},
		"a sum too great":   {States: 2, Total: 3, Weights: rows([]int64{1, 3}, []int64{1, 2})},
		"a wrapped sum":     {States: 3, Total: 3, Weights: rows([]int64{most, most, 5}, []int64{3, 0, 0}, []int64{3, 0, 0})},
	}
}

// changedText removes, adds or changes a byte of a text, or cuts it off there.
func changedText(r *rand.Rand, text, alphabet string) string {
	at := r.Intn(len(text))
	other := string(alphabet[r.Intn(len(alphabet))])
	switch r.Intn(4) {
	case 0:
		return text[:at] + text[at+1:]
	case 1:
		return text[:at] + other + text[at:]
	case 2:
		return text[:at] + other + text[at+1:]
	default:
		return text[:at]
	}
}

func nines(count int) string { return strings.Repeat("9", count) }

// tenTo returns 10 to a power, which has one digit more.
func tenTo(power int) string { return "1" + strings.Repeat("0", power) }
