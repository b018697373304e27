package tests

import (
	"math"
	"math/big"
	"math/rand"
	"strings"
	"testing"

	"loop.example/g01118/impl"
)

// The tests of this file are about promise 2: fractions.

func TestCodeName(t *testing.T) {
	names := []string{"ok", "invalid", "range", "limit", "state", "syntax", "notfound", "budget", "proof"}
	codes := []int64{impl.OK, impl.ErrInvalid, impl.ErrRange, impl.ErrLimit, impl.ErrState, impl.ErrSyntax, impl.ErrNotFound, impl.ErrBudget, impl.ErrProof}
	for i, name := range names {
		same(t, "code", codes[i], int64(i))
		same(t, "name", impl.CodeName(int64(i)), name)
	}
	for _, other := range []int64{-1, 9, 10, math.MinInt64, math.MaxInt64, 1 << 32} {
		same(t, "name of another number", impl.CodeName(other), "")
	}
}

func TestValidFraction(t *testing.T) {
	valid := []string{
		"0", "1", "7", "1/2", "2/3", "10/7", "1000000007/1000000009", "18446744073709551616", "4294967296/4294967295",
		nines(300), "1/" + nines(300), nines(300) + "/" + tenTo(299), tenTo(299), tenTo(299) + "/" + nines(299),
	}
	for _, text := range valid {
		same(t, text, impl.ValidFraction(frac(text)), true)
	}
	invalid := []string{
		"", "/", "1/", "/1", "0/0", "1/0", "0/2", "00", "01", "1/01", "1/00", "00/1", "2/4", "3/3", "6/4", "10/5",
		"-1", "+1", "-1/2", "1/-2", "1/+2", " 1", "1 ", "1/ 2", "1/2 ", "a", "1a", "0x1", "1e3", "1_0", "1.5", "1,5", "1\n",
		"\u0661", "1\x00", "\x00", "1/1/1",
		"1" + nines(300), "1/1" + nines(300), tenTo(300), "1/" + tenTo(300), "0" + nines(299), strings.Repeat("0", 300),
		nines(300) + "/" + nines(300), nines(300) + "/" + nines(150), nines(300) + "/" + nines(100), tenTo(299) + "/" + tenTo(298), "0/" + tenTo(299),
		strings.Repeat("1", 1000000), "1/" + strings.Repeat("1", 1000000),
	}
	for _, text := range invalid {
		same(t, "valid "+text[:min(len(text), 40)], impl.ValidFraction(frac(text)), false)
		same(t, "text of "+text[:min(len(text), 40)], impl.FractionText(frac(text)), "")
	}
}

func TestFractionOf(t *testing.T) {
	for _, one := range []struct {
		num, den int64
		want     string
	}{
		{0, 1, "0"}, {0, 5, "0"}, {0, math.MaxInt64, "0"}, {1, 1, "1"}, {5, 5, "1"}, {6, 3, "2"}, {2, 4, "1/2"}, {9, 6, "3/2"},
		{math.MaxInt64, 1, "9223372036854775807"}, {1, math.MaxInt64, "1/9223372036854775807"}, {math.MaxInt64, math.MaxInt64, "1"},
		{math.MaxInt64, 7, "1317624576693539401"}, {math.MaxInt64 - 1, 4, "4611686018427387903/2"}, {1 << 32, 1 << 31, "2"}, {1 << 62, 3 << 32, "1073741824/3"},
	} {
		x, c := impl.FractionOf(one.num, one.den)
		same(t, "code", c, int64(impl.OK))
		same(t, "text", impl.FractionText(x), one.want)
		same(t, "value", x, frac(one.want))
	}
	for _, bad := range [][2]int64{{-1, 1}, {1, 0}, {0, 0}, {0, -1}, {-1, -1}, {1, -1}, {math.MinInt64, 1}, {1, math.MinInt64}, {math.MinInt64, math.MinInt64}, {-1, 0}} {
		x, c := impl.FractionOf(bad[0], bad[1])
		code(t, "FractionOf", impl.ErrRange, x, c)
	}
}

// numerals returns whole numbers at which arithmetic may go wrong.
func numerals(r *rand.Rand) []*big.Int {
	list := []*big.Int{}
	one := big.NewInt(1)
	for _, power := range []uint{1, 31, 32, 33, 63, 64, 65, 95, 96, 128, 500, 960, 996} {
		p := new(big.Int).Lsh(one, power)
		list = append(list, p, new(big.Int).Sub(p, one), new(big.Int).Add(p, one))
	}
	for _, power := range []int{1, 8, 9, 10, 18, 19, 27, 149, 150, 298, 299} {
		p, _ := new(big.Int).SetString(tenTo(power), 10)
		list = append(list, p, new(big.Int).Sub(p, one), new(big.Int).Add(p, one))
	}
	for range 60 {
		digits := 1 + r.Intn(impl.MaxDigits)
		list = append(list, new(big.Int).Rand(r, new(big.Int).Exp(big.NewInt(10), big.NewInt(int64(digits)), nil)))
	}
	for n := range 20 {
		list = append(list, big.NewInt(int64(n)))
	}
	return list
}

func randomFraction(r *rand.Rand, pool []*big.Int) impl.Fraction {
	for {
		num, den := pool[r.Intn(len(pool))], pool[r.Intn(len(pool))]
		if r.Intn(4) == 0 {
			den = big.NewInt(1)
		}
		if den.Sign() == 0 {
			continue
		}
		if x, c := ofRat(new(big.Rat).SetFrac(num, den)); c == impl.OK {
			return x
		}
	}
}

// arithmeticOf compares all functions of two fractions with long arithmetic of
// the standard library.
func arithmeticOf(t *testing.T, a, b impl.Fraction) {
	t.Helper()
	x, y := ratOf(a), ratOf(b)
	sum, c := impl.AddFraction(a, b)
	isFraction(t, "sum", new(big.Rat).Add(x, y), sum, c)
	product, c := impl.MulFraction(a, b)
	isFraction(t, "product", new(big.Rat).Mul(x, y), product, c)
	less, c := impl.LessFraction(a, b)
	if x.Cmp(y) < 0 {
		code(t, "difference below 0", impl.ErrState, less, c)
	} else {
		isFraction(t, "difference", new(big.Rat).Sub(x, y), less, c)
	}
	quotient, c := impl.DivFraction(a, b)
	if y.Sign() == 0 {
		code(t, "quotient by 0", impl.ErrState, quotient, c)
	} else {
		isFraction(t, "quotient", new(big.Rat).Quo(x, y), quotient, c)
	}
	order, c := impl.CompareFraction(a, b)
	same(t, "order", []int64{order, c}, []int64{int64(x.Cmp(y)), impl.OK})
}

func TestArithmetic(t *testing.T) {
	r := rand.New(rand.NewSource(1))
	pool := numerals(r)
	for range 4000 {
		arithmeticOf(t, randomFraction(r, pool), randomFraction(r, pool))
	}
	for num := range int64(6) {
		for den := range int64(6) {
			a, _ := impl.FractionOf(num, den+1)
			for other := range int64(36) {
				b, _ := impl.FractionOf(other/6, other%6+1)
				arithmeticOf(t, a, b)
			}
		}
	}
}

// TestCommonDivisors takes out common divisors that are long themselves.
func TestCommonDivisors(t *testing.T) {
	r := rand.New(rand.NewSource(2))
	pool := numerals(r)
	for range 3000 {
		x, y, divisor := pool[r.Intn(len(pool))], pool[r.Intn(len(pool))], pool[r.Intn(len(pool))]
		a, b := new(big.Int).Mul(x, divisor), new(big.Int).Mul(y, divisor)
		if b.Sign() == 0 || len(a.String()) > impl.MaxDigits || len(b.String()) > impl.MaxDigits {
			continue
		}
		arithmeticOf(t, frac(a.String()), frac("1/"+b.String()))
		plain := impl.Fraction{Num: a.String(), Den: b.String()}
		isLowest := new(big.Int).GCD(nil, nil, a, b).Cmp(big.NewInt(1)) == 0
		same(t, "valid", impl.ValidFraction(plain), isLowest)
	}
	// Neighbours in Fibonacci's row take the most steps to find their divisor.
	small, great := big.NewInt(1), big.NewInt(1)
	for len(great.String()) <= impl.MaxDigits {
		same(t, "Fibonacci", impl.ValidFraction(frac(great.String()+"/"+small.String())), true)
		small, great = great, new(big.Int).Add(small, great)
	}
}

// TestLongDivision divides numbers for which the first words of both mislead:
// the quotient of the first words is greater than that of the whole numbers.
func TestLongDivision(t *testing.T) {
	hex := func(text string) *big.Int {
		n, _ := new(big.Int).SetString(text, 16)
		return n
	}
	for _, two := range [][2]string{
		{"8000000000000000ffffffff", "fffffff0ffffffff"},
		{"800000000000000000000001", "ffffffffffffffff"},
		{"80000000ffffffffffffffff", "fffffffefffffffefffffffe"},
		{"ffffffffffffffffffffffff", "ffffffffffffffffffffffff"},
		{"10000000000000000", "10000000000000001"},
		{"40000000000000007fffffff", "fffffff0ffffffffffffffff"},
	} {
		divisor, quotient := hex(two[0]), hex(two[1])
		product := new(big.Int).Mul(divisor, quotient)
		x, c := impl.DivFraction(frac(product.String()), frac(divisor.String()))
		isFraction(t, "whole quotient", new(big.Rat).SetInt(quotient), x, c)
		rest := new(big.Int).Add(product, big.NewInt(1))
		arithmeticOf(t, frac(rest.String()), frac(divisor.String()))
	}
}

// TestDivisionOfWords divides numbers whose words are special ones, so that the
// digits of quotients are hard to guess.
func TestDivisionOfWords(t *testing.T) {
	r := rand.New(rand.NewSource(4))
	patterned := func(words int) *big.Int {
		n := big.NewInt(1 + r.Int63n(2))
		for range words {
			word := []int64{0, 1, 1<<31 - 1, 1 << 31, 1<<32 - 2, 1<<32 - 1, r.Int63n(1 << 32)}[r.Intn(7)]
			n.Add(n.Lsh(n, 32), big.NewInt(word))
		}
		return n.Rsh(n, uint(r.Intn(2)))
	}
	for range 20000 {
		divisor, quotient := patterned(1+r.Intn(5)), patterned(1+r.Intn(5))
		product := new(big.Int).Mul(divisor, quotient)
		x, c := impl.DivFraction(frac(product.String()), frac(divisor.String()))
		isFraction(t, "whole quotient", new(big.Rat).SetInt(quotient), x, c)
	}
}

// TestRulesOfArithmetic checks rules that hold for all fractions.
func TestRulesOfArithmetic(t *testing.T) {
	r := rand.New(rand.NewSource(3))
	add := func(a, b impl.Fraction) impl.Fraction { x, _ := impl.AddFraction(a, b); return x }
	mul := func(a, b impl.Fraction) impl.Fraction { x, _ := impl.MulFraction(a, b); return x }
	less := func(a, b impl.Fraction) impl.Fraction { x, _ := impl.LessFraction(a, b); return x }
	div := func(a, b impl.Fraction) impl.Fraction { x, _ := impl.DivFraction(a, b); return x }
	for range 500 {
		x, _ := impl.FractionOf(r.Int63(), 1+r.Int63())
		y, _ := impl.FractionOf(r.Int63(), 1+r.Int63())
		z, _ := impl.FractionOf(1+r.Int63n(1000), 1+r.Int63n(1000))
		same(t, "a + b = b + a", add(x, y), add(y, x))
		same(t, "(a + b) + c = a + (b + c)", add(add(x, y), z), add(x, add(y, z)))
		same(t, "a * b = b * a", mul(x, y), mul(y, x))
		same(t, "(a * b) * c = a * (b * c)", mul(mul(x, y), z), mul(x, mul(y, z)))
		same(t, "(a + b) * c = a * c + b * c", mul(add(x, y), z), add(mul(x, z), mul(y, z)))
		same(t, "a + b - b = a", less(add(x, y), y), x)
		same(t, "a * c / c = a", div(mul(x, z), z), x)
		same(t, "a - a = 0", less(x, x), frac("0"))
		same(t, "c / c = 1", div(z, z), frac("1"))
		same(t, "a + 0 = a", add(x, frac("0")), x)
		same(t, "a * 1 = a", mul(x, frac("1")), x)
		same(t, "0 / c = 0", div(frac("0"), z), frac("0"))
		same(t, "lowest terms", impl.ValidFraction(add(x, y)) && impl.ValidFraction(mul(x, y)), true)
	}
}

// TestDigitLimit has results of 300 digits, which are given, and of 301.
func TestDigitLimit(t *testing.T) {
	two := func(f func(a, b impl.Fraction) (impl.Fraction, int64), a, b string) (impl.Fraction, int64) {
		return f(frac(a), frac(b))
	}
	for _, one := range []struct {
		name string
		do   func(a, b impl.Fraction) (impl.Fraction, int64)
		a, b string
		want string
	}{
		{"sum of 300", impl.AddFraction, nines(299) + "8", "1", nines(300)},
		{"sum of 301", impl.AddFraction, nines(300), "1", ""},
		{"sum, Den of 300", impl.AddFraction, "1/" + tenTo(149), "1/" + tenTo(299), tenTo(149)[:150] + "1/" + tenTo(299)},
		{"sum, Den of 301", impl.AddFraction, "1/" + tenTo(150), "1/" + tenTo(149) + "1", ""},
		{"sum that gets short", impl.AddFraction, nines(299) + "7/" + tenTo(299), "3/" + tenTo(299), "10"},
		{"product of 300", impl.MulFraction, tenTo(150), tenTo(149), tenTo(299)},
		{"product of 301", impl.MulFraction, tenTo(150), tenTo(150), ""},
		{"product, Den of 300", impl.MulFraction, "1/" + tenTo(150), "1/" + tenTo(149), "1/" + tenTo(299)},
		{"product, Den of 301", impl.MulFraction, "1/" + tenTo(150), "1/" + tenTo(150), ""},
		{"product that gets short", impl.MulFraction, nines(300) + "/" + tenTo(299), tenTo(299) + "/" + nines(300), "1"},
		{"difference, Den of 300", impl.LessFraction, "1/" + tenTo(150), "1/" + tenTo(299), nines(149) + "/" + tenTo(299)},
		{"difference, Den of 300 without a common divisor", impl.LessFraction, "1/" + nines(150), "1/" + tenTo(150), "1/" + nines(150) + strings.Repeat("0", 150)},
		{"difference, Den of 301", impl.LessFraction, "1/" + tenTo(150), "1/" + tenTo(149) + "1", ""},
		{"quotient of 300", impl.DivFraction, tenTo(150), "1/" + tenTo(149), tenTo(299)},
		{"quotient of 301", impl.DivFraction, tenTo(150), "1/" + tenTo(150), ""},
		{"quotient, Den of 300", impl.DivFraction, "1/" + tenTo(150), tenTo(149), "1/" + tenTo(299)},
		{"quotient, Den of 301", impl.DivFraction, "1/" + tenTo(150), tenTo(150), ""},
		{"quotient that gets short", impl.DivFraction, nines(300), nines(300), "1"},
	} {
		x, c := two(one.do, one.a, one.b)
		if one.want == "" {
			code(t, one.name, impl.ErrLimit, x, c)
			continue
		}
		same(t, one.name+": code", c, int64(impl.OK))
		same(t, one.name, impl.FractionText(x), one.want)
	}
	order, c := impl.CompareFraction(frac(nines(300)+"/"+tenTo(299)), frac(nines(299)+"8/"+nines(300)))
	same(t, "order of long ones", []int64{order, c}, []int64{1, impl.OK})
}

// TestFractionErrors checks the errors and their order.
func TestFractionErrors(t *testing.T) {
	bad := []impl.Fraction{{}, {Num: "1"}, {Den: "1"}, frac("2/4"), frac("1/0"), frac("0/2"), frac("-1"), frac(tenTo(300)), frac("1/" + tenTo(300))}
	good := []impl.Fraction{frac("0"), frac("1"), frac("1/2"), frac(nines(300))}
	for _, x := range bad {
		for _, y := range append(good, bad...) {
			for _, two := range [][2]impl.Fraction{{x, y}, {y, x}} {
				sum, c := impl.AddFraction(two[0], two[1])
				code(t, "AddFraction", impl.ErrInvalid, sum, c)
				less, c := impl.LessFraction(two[0], two[1])
				code(t, "LessFraction", impl.ErrInvalid, less, c)
				product, c := impl.MulFraction(two[0], two[1])
				code(t, "MulFraction", impl.ErrInvalid, product, c)
				quotient, c := impl.DivFraction(two[0], two[1])
				code(t, "DivFraction", impl.ErrInvalid, quotient, c)
				order, c := impl.CompareFraction(two[0], two[1])
				code(t, "CompareFraction", impl.ErrInvalid, order, c)
			}
		}
	}
	x, c := impl.LessFraction(frac("1/"+nines(300)), frac("1/"+tenTo(299)))
	code(t, "below 0 and too long", impl.ErrState, x, c)
	x, c = impl.DivFraction(frac(nines(300)), frac("0"))
	code(t, "by 0", impl.ErrState, x, c)
	x, c = impl.DivFraction(frac("0"), frac("0"))
	code(t, "0 by 0", impl.ErrState, x, c)
}
