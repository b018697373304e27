// Package impl is about chains that meet.
package impl

import (
	"cmp"
	"errors"
	"math/bits"
	"slices"
	"strconv"
	"strings"
)

// Error codes.
const (
	OK          = 0
	ErrInvalid  = 1
	ErrRange    = 2
	ErrLimit    = 3
	ErrState    = 4
	ErrSyntax   = 5
	ErrNotFound = 6
	ErrBudget   = 7
	ErrProof    = 8
)

// Limits of fractions and chains.
const (
	MaxDigits = 300
	MaxStates = 6
	MaxTotal  = 60
	MaxSteps  = 40
	MaxDraws  = 200
	MaxText   = 4000
)

// Fraction is a fraction of whole numbers in lowest terms.
type Fraction struct {
	Num string
	Den string
}

// Chain is a Markov chain.
type Chain struct {
	States  int64
	Total   int64
	Weights [][]int64
}

// CodeName returns the name of an error code.
func CodeName(code int64) string {
	names := [...]string{
		OK:          "ok",
		ErrInvalid:  "invalid",
		ErrRange:    "range",
		ErrLimit:    "limit",
		ErrState:    "state",
		ErrSyntax:   "syntax",
		ErrNotFound: "notfound",
		ErrBudget:   "budget",
		ErrProof:    "proof",
	}
	if code < 0 || code >= int64(len(names)) {
		return ""
	}
	return names[code]
}

// long is a whole number of any length, 0 or more: its words, the lowest one
// first, without zeros at the end. No method changes a long that it is given.
type long []uint32

const wordBits = 32

// Decimal digits are read and written in groups of as many as fit in a word.
const (
	groupDigits = 9
	groupSize   = 1000000000
)

func longOf(n uint64) long {
	return long{uint32(n), uint32(n >> wordBits)}.trim()
}

// longOfDigits returns the number with the given decimal digits.
func longOfDigits(digits string) long {
	x := long{}
	head := len(digits) % groupDigits
	for from, to := 0, head; to <= len(digits); from, to = to, to+groupDigits {
		group := uint64(0)
		for i := from; i < to; i++ {
			group = group*10 + uint64(digits[i]-'0')
		}
		x = x.times(longOf(groupSize)).plus(longOf(group))
	}
	return x
}

// digits returns the number in decimal.
func (x long) digits() string {
	if x.isZero() {
		return "0"
	}
	var groups []string
	for !x.isZero() {
		quotient, group := x.divideByWord(groupSize)
		groups = append(groups, strconv.FormatUint(uint64(group), 10))
		x = quotient
	}
	slices.Reverse(groups)
	for i, group := range groups[1:] {
		groups[i+1] = strings.Repeat("0", groupDigits-len(group)) + group
	}
	return strings.Join(groups, "")
}

func (x long) trim() long {
	n := len(x)
	for n > 0 && x[n-1] == 0 {
		n--
	}
	return x[:n]
}

func (x long) isZero() bool { return len(x) == 0 }

func (x long) compare(y long) int {
	if len(x) != len(y) {
		return cmp.Compare(len(x), len(y))
	}
	for i := len(x) - 1; i >= 0; i-- {
		if x[i] != y[i] {
			return cmp.Compare(x[i], y[i])
		}
	}
	return 0
}

func (x long) plus(y long) long {
	if len(x) < len(y) {
		x, y = y, x
	}
	sum := make(long, len(x)+1)
	carry := uint64(0)
	for i, word := range x {
		carry += uint64(word)
		if i < len(y) {
			carry += uint64(y[i])
		}
		sum[i] = uint32(carry)
		carry >>= wordBits
	}
	sum[len(x)] = uint32(carry)
	return sum.trim()
}

// minus returns x - y; y is at most x.
func (x long) minus(y long) long {
	rest := make(long, len(x))
	borrow := uint64(0)
	for i, word := range x {
		less := borrow
		if i < len(y) {
			less += uint64(y[i])
		}
		gap := uint64(word) - less
		rest[i] = uint32(gap)
		borrow = gap >> 63
	}
	return rest.trim()
}

// gap returns by how much the greater one of x and y is greater.
func (x long) gap(y long) long {
	if x.compare(y) < 0 {
		x, y = y, x
	}
	return x.minus(y)
}

func (x long) times(y long) long {
	product := make(long, len(x)+len(y))
	for i, word := range x {
		carry := uint64(0)
		for j, other := range y {
			carry += uint64(product[i+j]) + uint64(word)*uint64(other)
			product[i+j] = uint32(carry)
			carry >>= wordBits
		}
		product[i+len(y)] = uint32(carry)
	}
	return product.trim()
}

// over returns x / y without what is left over; y is not 0.
func (x long) over(y long) long {
	quotient, _ := x.divide(y)
	return quotient
}

// divide returns the quotient of x and y, and what is left over; y is not 0.
func (x long) divide(y long) (long, long) {
	if x.compare(y) < 0 {
		return nil, x
	}
	if len(y) == 1 {
		quotient, rest := x.divideByWord(y[0])
		return quotient, longOf(uint64(rest))
	}
	// With the highest bit of y set, the guess of a digit is at most 2 too great.
	shift := bits.LeadingZeros32(y[len(y)-1])
	x, y = append(x.shiftUp(shift), 0), y.shiftUp(shift)
	quotient := make(long, len(x)-len(y))
	for i := len(quotient) - 1; i >= 0; i-- {
		quotient[i] = takeOut(x[i:i+len(y)+1], y)
	}
	return quotient.trim(), x[:len(y)].shiftDown(shift)
}

func (x long) divideByWord(y uint32) (long, uint32) {
	quotient := make(long, len(x))
	rest := uint64(0)
	for i := len(x) - 1; i >= 0; i-- {
		rest = rest<<wordBits | uint64(x[i])
		quotient[i] = uint32(rest / uint64(y))
		rest %= uint64(y)
	}
	return quotient.trim(), uint32(rest)
}

// shiftUp returns the number times 2 to the power shift, less than wordBits, in
// memory of its own, so that the caller may write into it.
func (x long) shiftUp(shift int) long {
	up := make(long, len(x)+1)
	carry := uint64(0)
	for i, word := range x {
		carry |= uint64(word) << shift
		up[i] = uint32(carry)
		carry >>= wordBits
	}
	up[len(x)] = uint32(carry)
	return up.trim()
}

func (x long) shiftDown(shift int) long {
	down := make(long, len(x))
	for i := range down {
		down[i] = uint32(x.window(i*wordBits + shift))
	}
	return down.trim()
}

// takeOut takes y out of part as often as it goes, and returns how often. The
// part has one word more than y, and is less than y times the size of a word.
func takeOut(part, y long) uint32 {
	n := len(y)
	guess := guessDigit(part, y)
	carry, borrow := uint64(0), uint64(0)
	for i := range part {
		if i < n {
			carry += guess * uint64(y[i])
		}
		gap := uint64(part[i]) - uint64(uint32(carry)) - borrow
		part[i] = uint32(gap)
		borrow = gap >> 63
		carry >>= wordBits
	}
	if borrow > 0 {
		putBack(part, y)
		guess--
	}
	return uint32(guess)
}

// guessDigit returns how often y goes into part, or 1 more: it looks at the
// three highest words of part and the two highest words of y.
func guessDigit(part, y long) uint64 {
	n := len(y)
	high := uint64(part[n])<<wordBits | uint64(part[n-1])
	guess, rest := high/uint64(y[n-1]), high%uint64(y[n-1])
	for rest < 1<<wordBits {
		if guess < 1<<wordBits && guess*uint64(y[n-2]) <= rest<<wordBits|uint64(part[n-2]) {
			break
		}
		guess--
		rest += uint64(y[n-1])
	}
	return guess
}

// putBack adds y to part; what does not fit there is left out.
func putBack(part, y long) {
	carry := uint64(0)
	for i := range part {
		carry += uint64(part[i])
		if i < len(y) {
			carry += uint64(y[i])
		}
		part[i] = uint32(carry)
		carry >>= wordBits
	}
}

func (x long) bitLen() int {
	if x.isZero() {
		return 0
	}
	return len(x)*wordBits - bits.LeadingZeros32(x[len(x)-1])
}

// window returns the 64 bits of the number from one bit on.
func (x long) window(from int) uint64 {
	first, shift := from/wordBits, from%wordBits
	low, high := uint64(0), uint64(0)
	if first < len(x) {
		low = uint64(x[first])
	}
	if first+1 < len(x) {
		low |= uint64(x[first+1]) << wordBits
	}
	if first+2 < len(x) {
		high = uint64(x[first+2])
	}
	return low>>shift | high<<(64-shift)
}

// divisorWith returns the greatest common divisor of x and y; that of a number
// and 0 is the number.
func (x long) divisorWith(y long) long {
	if x.compare(y) < 0 {
		x, y = y, x
	}
	for y.bitLen() > 64 {
		from := x.bitLen() - 64
		first, second := guessRemainders(x.window(from), y.window(from))
		if first.ofY == 0 {
			_, rest := x.divide(y)
			x, y = y, rest
		} else {
			x, y = first.gap(x, y), second.gap(x, y)
		}
	}
	if y.isZero() {
		return x
	}
	_, rest := x.divide(y)
	return longOf(commonDivisor(y.window(0), rest.window(0)))
}

func commonDivisor(x, y uint64) uint64 {
	for y > 0 {
		x, y = y, x%y
	}
	return x
}

// remainder is one of those that Euclid's steps leave over from x and y: the
// difference of ofX times x and ofY times y.
type remainder struct {
	ofX, ofY uint64
}

func (r remainder) gap(x, y long) long {
	return x.times(longOf(r.ofX)).gap(y.times(longOf(r.ofY)))
}

// guessRemainders returns two consecutive remainders of long numbers, of which
// only the 64 highest bits are given, from the same bit on, x being at least y.
// It goes on as long as the lower bits cannot matter: by the rule of Collins, a
// step is certain if what is left over is large enough beside its factors. The
// first factor is 0 if no step is certain.
func guessRemainders(x, y uint64) (remainder, remainder) {
	before, now, next := remainder{}, remainder{1, 0}, remainder{0, 1}
	for y >= next.ofY && x-y >= now.ofY+next.ofY {
		quotient := x / y
		x, y = y, x%y
		before, now, next = now, next, remainder{now.ofX + quotient*next.ofX, now.ofY + quotient*next.ofY}
	}
	return before, now
}

// ratio is a fraction of long numbers that need not be in lowest terms.
type ratio struct {
	num, den long
}

func (a ratio) plus(b ratio) ratio {
	return ratio{a.num.times(b.den).plus(b.num.times(a.den)), a.den.times(b.den)}
}

// minus returns a - b; b is at most a.
func (a ratio) minus(b ratio) ratio {
	return ratio{a.num.times(b.den).minus(b.num.times(a.den)), a.den.times(b.den)}
}

func (a ratio) times(b ratio) ratio {
	return ratio{a.num.times(b.num), a.den.times(b.den)}
}

// over returns a / b; b is not 0.
func (a ratio) over(b ratio) ratio {
	return ratio{a.num.times(b.den), a.den.times(b.num)}
}

func (a ratio) compare(b ratio) int {
	return a.num.times(b.den).compare(b.num.times(a.den))
}

// lowest returns a in lowest terms.
func (a ratio) lowest() ratio {
	divisor := a.num.divisorWith(a.den)
	return ratio{a.num.over(divisor), a.den.over(divisor)}
}

// fraction returns the Fraction with the value of a, or ErrLimit if it would be
// too long.
func (a ratio) fraction() (Fraction, int64) {
	a = a.lowest()
	x := Fraction{a.num.digits(), a.den.digits()}
	if max(len(x.Num), len(x.Den)) > MaxDigits {
		return Fraction{}, ErrLimit
	}
	return x, OK
}

func zeroRatio() ratio { return ratio{longOf(0), longOf(1)} }

func oneRatio() ratio { return ratio{longOf(1), longOf(1)} }

func isNumeral(text string) bool {
	if len(text) < 1 || len(text) > MaxDigits || text[0] == '0' && len(text) > 1 {
		return false
	}
	for i := range len(text) {
		if text[i] < '0' || text[i] > '9' {
			return false
		}
	}
	return true
}

// readFraction returns the value of x, and whether x is valid.
func readFraction(x Fraction) (ratio, bool) {
	if !isNumeral(x.Num) || !isNumeral(x.Den) {
		return ratio{}, false
	}
	a := ratio{longOfDigits(x.Num), longOfDigits(x.Den)}
	if a.den.isZero() || a.num.divisorWith(a.den).compare(longOf(1)) != 0 {
		return ratio{}, false
	}
	return a, true
}

func readFractions(list []Fraction) ([]ratio, bool) {
	values := make([]ratio, 0, len(list))
	for _, x := range list {
		value, ok := readFraction(x)
		if !ok {
			return nil, false
		}
		values = append(values, value)
	}
	return values, true
}

func readTwo(a, b Fraction) (ratio, ratio, bool) {
	x, okX := readFraction(a)
	y, okY := readFraction(b)
	return x, y, okX && okY
}

// writeFractions returns the Fractions with the given values, or ErrLimit if
// one of them would be too long.
func writeFractions(values []ratio) ([]Fraction, int64) {
	list := make([]Fraction, 0, len(values))
	for _, value := range values {
		x, code := value.fraction()
		if code != OK {
			return nil, code
		}
		list = append(list, x)
	}
	return list, OK
}

// writeTable does the same for lists of values.
func writeTable(table [][]ratio) ([][]Fraction, int64) {
	lists := make([][]Fraction, 0, len(table))
	for _, values := range table {
		list, code := writeFractions(values)
		if code != OK {
			return nil, code
		}
		lists = append(lists, list)
	}
	return lists, OK
}

// ValidFraction reports whether x is valid.
func ValidFraction(x Fraction) bool {
	_, ok := readFraction(x)
	return ok
}

// FractionOf returns num / den.
func FractionOf(num, den int64) (Fraction, int64) {
	if num < 0 || den <= 0 {
		return Fraction{}, ErrRange
	}
	return ratio{longOf(uint64(num)), longOf(uint64(den))}.fraction()
}

// FractionText returns the text of a fraction.
func FractionText(x Fraction) string {
	switch {
	case !ValidFraction(x):
		return ""
	case x.Den == "1":
		return x.Num
	default:
		return x.Num + "/" + x.Den
	}
}

// AddFraction returns a + b.
func AddFraction(a, b Fraction) (Fraction, int64) {
	x, y, ok := readTwo(a, b)
	if !ok {
		return Fraction{}, ErrInvalid
	}
	return x.plus(y).fraction()
}

// LessFraction returns a - b.
func LessFraction(a, b Fraction) (Fraction, int64) {
	x, y, ok := readTwo(a, b)
	if !ok {
		return Fraction{}, ErrInvalid
	}
	if x.compare(y) < 0 {
		return Fraction{}, ErrState
	}
	return x.minus(y).fraction()
}

// MulFraction returns a times b.
func MulFraction(a, b Fraction) (Fraction, int64) {
	x, y, ok := readTwo(a, b)
	if !ok {
		return Fraction{}, ErrInvalid
	}
	return x.times(y).fraction()
}

// DivFraction returns a / b.
func DivFraction(a, b Fraction) (Fraction, int64) {
	x, y, ok := readTwo(a, b)
	if !ok {
		return Fraction{}, ErrInvalid
	}
	if y.num.isZero() {
		return Fraction{}, ErrState
	}
	return x.over(y).fraction()
}

// CompareFraction compares two fractions.
func CompareFraction(a, b Fraction) (int64, int64) {
	x, y, ok := readTwo(a, b)
	if !ok {
		return 0, ErrInvalid
	}
	return int64(x.compare(y)), OK
}

type number interface {
	~int64 | ~uint64
}

// fold joins the numbers of a row, one after the other, to a first one.
func fold[N number](row []N, first N, join func(N, N) N) N {
	for _, n := range row {
		first = join(first, n)
	}
	return first
}

func sumOf[N number](row []N) N {
	return fold(row, 0, func(a, b N) N { return a + b })
}

// isRow reports whether a row has so many numbers, 0 or more, with this sum.
func isRow(row []int64, length, sum int64) bool {
	if int64(len(row)) != length {
		return false
	}
	least := fold(row, 0, func(a, b int64) int64 { return min(a, b) })
	greatest := fold(row, 0, func(a, b int64) int64 { return max(a, b) })
	// Only small numbers are added, so that the sum does not wrap around.
	return least >= 0 && greatest <= sum && sumOf(row) == sum
}

// ValidChain reports whether c is valid.
func ValidChain(c Chain) bool {
	if !isIn(c.States, 1, MaxStates) || !isIn(c.Total, 1, MaxTotal) || int64(len(c.Weights)) != c.States {
		return false
	}
	for _, row := range c.Weights {
		if !isRow(row, c.States, c.Total) {
			return false
		}
	}
	return true
}

func isIn(n, least, greatest int64) bool { return least <= n && n <= greatest }

// SameChain reports whether two chains are deeply equal.
func SameChain(c, d Chain) bool {
	return c.States == d.States && c.Total == d.Total && slices.EqualFunc(c.Weights, d.Weights, slices.Equal)
}

// appendLine appends a word and numbers as a line of a text.
func appendLine(text []byte, word string, numbers ...int64) []byte {
	text = append(text, word...)
	for _, n := range numbers {
		text = strconv.AppendInt(append(text, ' '), n, 10)
	}
	return append(text, '\n')
}

// ChainText returns the text of a chain.
func ChainText(c Chain) string {
	if !ValidChain(c) {
		return ""
	}
	text := appendLine(nil, "chain", c.States, c.Total)
	for _, row := range c.Weights {
		text = appendLine(text, "from", row...)
	}
	return string(text)
}

// textError tells why a text cannot be read, and at which byte.
type textError struct {
	code int64
	at   int
}

func (e textError) Error() string {
	return CodeName(e.code) + " at " + strconv.Itoa(e.at)
}

// codeOf returns the code of an error that comes from reading a text.
func codeOf(err error) int64 {
	var bad textError
	if errors.As(err, &bad) {
		return bad.code
	}
	return OK
}

// scanner reads a text piece by piece. Behind its first error it reads nothing
// more, so that callers need to look at err at the end only.
type scanner struct {
	text string
	at   int
	err  error
}

// newScanner returns a scanner for a text of at most so many bytes.
func newScanner(text string, most int) *scanner {
	s := &scanner{text: text}
	if len(text) > most {
		s.err = textError{ErrRange, most}
	}
	return s
}

func (s *scanner) fail() {
	if s.err == nil {
		s.err = textError{ErrSyntax, s.at}
	}
}

// literal reads just the given piece.
func (s *scanner) literal(piece string) {
	if s.err != nil || !strings.HasPrefix(s.text[s.at:], piece) {
		s.fail()
		return
	}
	s.at += len(piece)
}

// number reads a number from least to greatest, 0 or more, in decimal. It
// returns 0 where there is none.
func (s *scanner) number(least, greatest int64) int64 {
	to := s.at
	for to < len(s.text) && '0' <= s.text[to] && s.text[to] <= '9' {
		to++
	}
	digits := s.text[s.at:to]
	n, err := strconv.ParseInt(digits, 10, 64)
	if s.err != nil || err != nil || !isNumeral(digits) || !isIn(n, least, greatest) {
		s.fail()
		return 0
	}
	s.at = to
	return n
}

// numbers reads so many numbers, each with a blank before it.
func (s *scanner) numbers(count, least, greatest int64) []int64 {
	list := make([]int64, 0, count)
	for range count {
		s.literal(" ")
		list = append(list, s.number(least, greatest))
	}
	return list
}

// hasMore reports whether there is more to be read.
func (s *scanner) hasMore() bool { return s.err == nil && s.at < len(s.text) }

func (s *scanner) end() {
	if s.hasMore() {
		s.fail()
	}
}

// ReadChain returns the chain with the given text.
func ReadChain(text string) (Chain, int64) {
	s := newScanner(text, MaxText)
	s.literal("chain ")
	c := Chain{States: s.number(1, MaxStates)}
	s.literal(" ")
	c.Total = s.number(1, MaxTotal)
	s.literal("\n")
	for range c.States {
		s.literal("from")
		c.Weights = append(c.Weights, s.numbers(c.States, 0, c.Total))
		s.literal("\n")
	}
	s.end()
	if !ValidChain(c) {
		s.fail()
	}
	if code := codeOf(s.err); code != OK {
		return Chain{}, code
	}
	return c, OK
}

// readSpread returns the chances of p, and whether p is a spread.
func readSpread(p []Fraction) ([]ratio, bool) {
	if !isIn(int64(len(p)), 1, MaxStates) {
		return nil, false
	}
	chances, ok := readFractions(p)
	if !ok || sumOfRatios(chances).compare(oneRatio()) != 0 {
		return nil, false
	}
	return chances, true
}

func sumOfRatios(values []ratio) ratio {
	sum := zeroRatio()
	for _, value := range values {
		sum = sum.plus(value)
	}
	return sum
}

// ValidSpread reports whether p is a spread.
func ValidSpread(p []Fraction) bool {
	_, ok := readSpread(p)
	return ok
}

// SureSpread returns the spread of one state.
func SureSpread(states, s int64) ([]Fraction, int64) {
	if !isIn(states, 1, MaxStates) || !isIn(s, 0, states-1) {
		return nil, ErrRange
	}
	p := slices.Repeat([]Fraction{{"0", "1"}}, int(states))
	p[s] = Fraction{"1", "1"}
	return p, OK
}

// EvenSpread returns the spread in which all states have the same chance.
func EvenSpread(states int64) ([]Fraction, int64) {
	if !isIn(states, 1, MaxStates) {
		return nil, ErrRange
	}
	chance, _ := FractionOf(1, states)
	return slices.Repeat([]Fraction{chance}, int(states)), OK
}

// MixSpreads returns a mixture of two spreads.
func MixSpreads(p, q []Fraction, share Fraction) ([]Fraction, int64) {
	chancesP, okP := readSpread(p)
	chancesQ, okQ := readSpread(q)
	shareP, okShare := readFraction(share)
	if !okP || !okQ || !okShare {
		return nil, ErrInvalid
	}
	if len(p) != len(q) {
		return nil, ErrRange
	}
	if shareP.compare(oneRatio()) > 0 {
		return nil, ErrState
	}
	shareQ := oneRatio().minus(shareP)
	mixed := make([]ratio, 0, len(p))
	for s := range p {
		mixed = append(mixed, chancesP[s].times(shareP).plus(chancesQ[s].times(shareQ)))
	}
	return writeFractions(mixed)
}

// sharing is a list of fractions with one denominator for all of them.
type sharing struct {
	nums []long
	den  long
}

func shareOut(values []ratio) sharing {
	den := longOf(1)
	for _, value := range values {
		den = den.over(den.divisorWith(value.den)).times(value.den)
	}
	nums := make([]long, 0, len(values))
	for _, value := range values {
		nums = append(nums, value.num.times(den.over(value.den)))
	}
	return sharing{nums, den}
}

func (p sharing) at(s int64) ratio { return ratio{p.nums[s], p.den} }

func (p sharing) ratios() []ratio {
	values := make([]ratio, 0, len(p.nums))
	for _, num := range p.nums {
		values = append(values, ratio{num, p.den})
	}
	return values
}

// step returns the chances behind a step of c.
func (p sharing) step(c Chain) sharing {
	nums := make([]long, c.States)
	for s, row := range c.Weights {
		for t, weight := range row {
			if weight > 0 {
				nums[t] = nums[t].plus(p.nums[s].times(longOf(uint64(weight))))
			}
		}
	}
	return sharing{nums, p.den.times(longOf(uint64(c.Total)))}
}

func (p sharing) steps(c Chain, count int64) sharing {
	for range count {
		p = p.step(c)
	}
	return p
}

// sureSharing returns the chances of a chain that is in the state s.
func sureSharing(states, s int64) sharing {
	nums := make([]long, states)
	nums[s] = longOf(1)
	return sharing{nums, longOf(1)}
}

// readSpreadOf returns the chances of a spread over the states of c.
func readSpreadOf(c Chain, p []Fraction) ([]ratio, int64) {
	chances, ok := readSpread(p)
	if !ok || !ValidChain(c) {
		return nil, ErrInvalid
	}
	if int64(len(p)) != c.States {
		return nil, ErrRange
	}
	return chances, OK
}

// SpreadAfter returns the spread after some steps.
func SpreadAfter(c Chain, p []Fraction, steps int64) ([]Fraction, int64) {
	chances, code := readSpreadOf(c, p)
	if code != OK {
		return nil, code
	}
	if !isIn(steps, 0, MaxSteps) {
		return nil, ErrRange
	}
	return writeFractions(shareOut(chances).steps(c, steps).ratios())
}

// ChanceAfter returns the chance to be in a state after some steps.
func ChanceAfter(c Chain, s, t, steps int64) (Fraction, int64) {
	if !ValidChain(c) {
		return Fraction{}, ErrInvalid
	}
	if !isState(c, s) || !isState(c, t) || !isIn(steps, 0, MaxSteps) {
		return Fraction{}, ErrRange
	}
	return sureSharing(c.States, s).steps(c, steps).at(t).fraction()
}

func isState(c Chain, s int64) bool { return isIn(s, 0, c.States-1) }

// ExpectedValue returns the expected value of values.
func ExpectedValue(p, values []Fraction) (Fraction, int64) {
	chances, okChances := readSpread(p)
	numbers, okNumbers := readFractions(values)
	if !okChances || !okNumbers {
		return Fraction{}, ErrInvalid
	}
	if len(p) != len(values) {
		return Fraction{}, ErrRange
	}
	products := make([]ratio, 0, len(p))
	for s := range p {
		products = append(products, chances[s].times(numbers[s]))
	}
	return sumOfRatios(products).fraction()
}

// makeChain returns the chain with the given weights, or ErrLimit if it would
// have too many states or too great a total.
func makeChain(states, total int64, weight func(s, t int64) int64) (Chain, int64) {
	if states > MaxStates || total > MaxTotal {
		return Chain{}, ErrLimit
	}
	c := Chain{States: states, Total: total}
	for s := range states {
		row := make([]int64, 0, states)
		for t := range states {
			row = append(row, weight(s, t))
		}
		c.Weights = append(c.Weights, row)
	}
	return c, OK
}

// checkTwo returns the error of two chains that need to have the same states.
func checkTwo(c, d Chain) int64 {
	switch {
	case !ValidChain(c) || !ValidChain(d):
		return ErrInvalid
	case c.States != d.States:
		return ErrRange
	default:
		return OK
	}
}

// LazyChain returns the chain that stays with the chance 1/2.
func LazyChain(c Chain) (Chain, int64) {
	if !ValidChain(c) {
		return Chain{}, ErrInvalid
	}
	return makeChain(c.States, 2*c.Total, func(s, t int64) int64 {
		if s == t {
			return c.Weights[s][t] + c.Total
		}
		return c.Weights[s][t]
	})
}

// MixChains returns the chain that makes a step of c or of d.
func MixChains(c, d Chain) (Chain, int64) {
	if code := checkTwo(c, d); code != OK {
		return Chain{}, code
	}
	return makeChain(c.States, 2*c.Total*d.Total, func(s, t int64) int64 {
		return c.Weights[s][t]*d.Total + d.Weights[s][t]*c.Total
	})
}

// ThenChain returns the chain that makes a step of c and then one of d.
func ThenChain(c, d Chain) (Chain, int64) {
	if code := checkTwo(c, d); code != OK {
		return Chain{}, code
	}
	return makeChain(c.States, c.Total*d.Total, func(s, t int64) int64 {
		sum := int64(0)
		for between, weight := range c.Weights[s] {
			sum += weight * d.Weights[between][t]
		}
		return sum
	})
}

// stayingChain returns the chain with the Total 1 that stays where it is.
func stayingChain(states int64) (Chain, int64) {
	return makeChain(states, 1, func(s, t int64) int64 {
		if s == t {
			return 1
		}
		return 0
	})
}

// SkipChain returns the chain that makes k steps at once.
func SkipChain(c Chain, k int64) (Chain, int64) {
	if !ValidChain(c) {
		return Chain{}, ErrInvalid
	}
	if !isIn(k, 0, MaxSteps) {
		return Chain{}, ErrRange
	}
	skip, code := stayingChain(c.States)
	for range k {
		skip, code = ThenChain(skip, c)
		if code != OK {
			return Chain{}, code
		}
	}
	return skip, code
}

// BesideChain returns the chain that makes steps of c and d side by side.
func BesideChain(c, d Chain) (Chain, int64) {
	if !ValidChain(c) || !ValidChain(d) {
		return Chain{}, ErrInvalid
	}
	n := d.States
	return makeChain(c.States*n, c.Total*d.Total, func(s, t int64) int64 {
		return c.Weights[s/n][t/n] * d.Weights[s%n][t%n]
	})
}

// isOrdering reports whether order contains each of so many states once.
func isOrdering(order []int64, states int64) bool {
	if int64(len(order)) != states {
		return false
	}
	for s := range states {
		if !slices.Contains(order, s) {
			return false
		}
	}
	return true
}

// RenameStates returns a chain with its states in another order.
func RenameStates(c Chain, order []int64) (Chain, int64) {
	if !ValidChain(c) {
		return Chain{}, ErrInvalid
	}
	if !isOrdering(order, c.States) {
		return Chain{}, ErrRange
	}
	return makeChain(c.States, c.Total, func(s, t int64) int64 {
		return c.Weights[order[s]][order[t]]
	})
}

// IsEven reports whether the even spread stays what it is.
func IsEven(c Chain) (bool, int64) {
	if !ValidChain(c) {
		return false, ErrInvalid
	}
	for t := range c.States {
		column := make([]int64, 0, c.States)
		for _, row := range c.Weights {
			column = append(column, row[t])
		}
		if sumOf(column) != c.Total {
			return false, OK
		}
	}
	return true, OK
}

// pick returns the least place in a row for which the sum up to it is greater
// than draw, which is less than the sum of the row.
func pick(row []int64, draw int64) int64 {
	place := 0
	for sumOf(row[:place+1]) <= draw {
		place++
	}
	return int64(place)
}

func isDraw(c Chain, draw int64) bool { return isIn(draw, 0, c.Total-1) }

// StepByDraw returns the state to which a chain goes by a draw.
func StepByDraw(c Chain, s, draw int64) (int64, int64) {
	if !ValidChain(c) {
		return 0, ErrInvalid
	}
	if !isState(c, s) || !isDraw(c, draw) {
		return 0, ErrRange
	}
	return pick(c.Weights[s], draw), OK
}

// RunByDraws returns the states of a run by draws.
func RunByDraws(c Chain, s int64, draws []int64) ([]int64, int64) {
	if !ValidChain(c) {
		return nil, ErrInvalid
	}
	if !isState(c, s) || len(draws) > MaxDraws {
		return nil, ErrRange
	}
	run := []int64{s}
	for _, draw := range draws {
		if !isDraw(c, draw) {
			return nil, ErrRange
		}
		s = pick(c.Weights[s], draw)
		run = append(run, s)
	}
	return run, OK
}
