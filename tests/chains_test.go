package tests

import (
	"math"
	"math/rand"
	"slices"
	"strconv"
	"strings"
	"testing"

	"loop.example/g01118/impl"
)

// The tests of this file are about promise 2: chains, their texts and names.

const exampleText = "chain 2 3\nfrom 1 2\nfrom 3 0\n"

func TestValidChain(t *testing.T) {
	r := rand.New(rand.NewSource(1))
	for states := range int64(impl.MaxStates) {
		for _, total := range []int64{1, 2, 59, impl.MaxTotal} {
			same(t, "valid", impl.ValidChain(randomChainOf(r, states+1, total)), true)
		}
	}
	for name, c := range invalidChains() {
		same(t, name, impl.ValidChain(c), false)
		same(t, "text of "+name, impl.ChainText(c), "")
	}
	for range 500 {
		c := randomChain(r)
		s, u := r.Int63n(c.States), r.Int63n(c.States)
		c.Weights[s][u] += []int64{-1, 1, math.MaxInt64, math.MinInt64}[r.Intn(4)]
		same(t, "a changed weight", impl.ValidChain(c), false)
	}
}

func TestSameChain(t *testing.T) {
	list := []impl.Chain{}
	for _, c := range invalidChains() {
		list = append(list, c)
	}
	list = append(list, readChain(t, exampleText), readChain(t, "chain 2 3\nfrom 1 2\nfrom 2 1\n"), readChain(t, "chain 1 3\nfrom 3\n"))
	for i, c := range list {
		for j, d := range list {
			same(t, "the same", impl.SameChain(c, d), i == j)
		}
		copied := impl.Chain{States: c.States, Total: c.Total}
		for _, row := range c.Weights {
			copied.Weights = append(copied.Weights, slices.Clone(row))
		}
		same(t, "a copy", impl.SameChain(c, copied) && impl.SameChain(copied, c), true)
	}
	for _, two := range [][2]impl.Chain{
		{{}, {Weights: [][]int64{}}},
		{{Weights: [][]int64{nil}}, {Weights: [][]int64{{}}}},
	} {
		same(t, "nil and empty", impl.SameChain(two[0], two[1]), true)
	}
	for _, two := range [][2]impl.Chain{
		{{}, {States: 1}},
		{{}, {Total: 1}},
		{{}, {Weights: [][]int64{{}}}},
		{{Weights: [][]int64{{1}}}, {Weights: [][]int64{{1}, {}}}},
		{{Weights: [][]int64{{1}}}, {Weights: [][]int64{{1, 0}}}},
		{{Weights: [][]int64{{1, 0}}}, {Weights: [][]int64{{1}, {0}}}},
	} {
		same(t, "different", impl.SameChain(two[0], two[1]) || impl.SameChain(two[1], two[0]), false)
	}
}

// textOf writes the text of a chain, valid or not.
func textOf(c impl.Chain) string {
	text := "chain " + strconv.FormatInt(c.States, 10) + " " + strconv.FormatInt(c.Total, 10) + "\n"
	for _, row := range c.Weights {
		text += "from"
		for _, weight := range row {
			text += " " + strconv.FormatInt(weight, 10)
		}
		text += "\n"
	}
	return text
}

func TestChainText(t *testing.T) {
	r := rand.New(rand.NewSource(2))
	for range 2000 {
		c := randomChain(r)
		same(t, "text", impl.ChainText(c), textOf(c))
		d, got := impl.ReadChain(textOf(c))
		same(t, "code", got, int64(impl.OK))
		same(t, "chain", impl.SameChain(c, d), true)
	}
	for name, c := range invalidChains() {
		d, got := impl.ReadChain(textOf(c))
		code(t, name, impl.ErrSyntax, d, got)
	}
}

func TestReadChainSyntax(t *testing.T) {
	for _, text := range []string{
		"", "\n", "chain", "chain ", "chain 1", "chain 1 1", "chain 1 1\n", "chain 1 1\nfrom", "chain 1 1\nfrom 1",
		"chain 1 1\nfrom \n", "chain 1 1\nfrom 1\n\n", "chain 1 1\nfrom 1\nfrom 1\n", "\nchain 1 1\nfrom 1\n", "chain 1 1\n\nfrom 1\n",
		"chain  1 1\nfrom 1\n", "chain 1  1\nfrom 1\n", "chain 1 1 \nfrom 1\n", " chain 1 1\nfrom 1\n", "chain 1 1\n from 1\n",
		"chain 1 1\nfrom  1\n", "chain 1 1\nfrom 1 \n", "chain\t1 1\nfrom 1\n", "chain 1 1\r\nfrom 1\r\n", "chain 1 1\nfrom 1\n ",
		"chain 1 1 from 1\n", "chain 01 1\nfrom 1\n", "chain 1 01\nfrom 1\n", "chain 1 1\nfrom 01\n", "chain +1 1\nfrom 1\n",
		"chain 1 1\nfrom +1\n", "chain 1 1\nfrom 0x1\n", "chain 1 1\nfrom 1_\n", "chain 1 1\nfrom 1.0\n", "chain -1 1\nfrom 1\n",
		"chain 1 1\nfrom 1\x00\n", "Chain 1 1\nfrom 1\n", "chain 1 1\nFrom 1\n", "chains 1 1\nfrom 1\n", "chain 1 1\nform 1\n",
		"chain 1 1\nfrom 1 0\n", "chain 2 1\nfrom 1\nfrom 1\n", "chain 2 1\nfrom 1 0\n", "chain 2 1\nfrom 1 0\nfrom 0 1\nfrom 1 0\n",
		"chain 2 3\nfrom 4 -1\nfrom 3 0\n", "chain 2 3\nfrom 1 1\nfrom 3 0\n", "chain 2 3\nfrom 2 2\nfrom 3 0\n", "chain 2 3\nfrom 00 3\nfrom 3 0\n",
		"chain 0 1\n", "chain 1 0\nfrom 0\n", "chain 7 1\nfrom 1 0 0 0 0 0 0\n", "chain 1 61\nfrom 61\n",
		"chain 18446744073709551617 1\nfrom 1\n", "chain 1 18446744073709551617\nfrom 1\n", "chain 1 1\nfrom 18446744073709551617\n",
		"chain 99999999999999999999999999 1\nfrom 1\n", "chain 9223372036854775807 1\n", "from 1\nchain 1 1\n", "maps 1 1\nfrom 1\n", "\u0661",
	} {
		c, got := impl.ReadChain(text)
		code(t, text, impl.ErrSyntax, c, got)
	}
}

// TestReadChainChanged changes a byte of a text: what is read has this text.
func TestReadChainChanged(t *testing.T) {
	r := rand.New(rand.NewSource(3))
	const alphabet = "0123456789 \n-+chainfrom"
	read := 0
	for range 20000 {
		text := changedText(r, textOf(randomChainOf(r, 1+r.Int63n(3), 1+r.Int63n(12))), alphabet)
		c, got := impl.ReadChain(text)
		if got == impl.OK {
			same(t, "text", impl.ChainText(c), text)
			read++
		} else {
			code(t, text, impl.ErrSyntax, c, got)
		}
	}
	if read == 0 {
		t.Error("no changed text was that of a chain")
	}
}

func TestReadChainLength(t *testing.T) {
	for _, one := range []struct {
		text string
		want int64
	}{
		{strings.Repeat("x", impl.MaxText), impl.ErrSyntax},
		{strings.Repeat("x", impl.MaxText+1), impl.ErrRange},
		{exampleText + strings.Repeat("\n", impl.MaxText-len(exampleText)), impl.ErrSyntax},
		{exampleText + strings.Repeat("\n", impl.MaxText+1-len(exampleText)), impl.ErrRange},
		{strings.Repeat("9", impl.MaxText+1), impl.ErrRange},
		{"chain " + strings.Repeat("9", 2000), impl.ErrSyntax},
		{strings.Repeat("1", 1000000), impl.ErrRange},
	} {
		c, got := impl.ReadChain(one.text)
		code(t, "a long text", one.want, c, got)
	}
}

func TestRenameStates(t *testing.T) {
	r := rand.New(rand.NewSource(4))
	for range 500 {
		c := randomChain(r)
		order, back := []int64{}, make([]int64, c.States)
		for i, s := range r.Perm(int(c.States)) {
			order = append(order, int64(s))
			back[s] = int64(i)
		}
		d, got := impl.RenameStates(c, order)
		same(t, "code", got, int64(impl.OK))
		same(t, "states and total", []int64{d.States, d.Total}, []int64{c.States, c.Total})
		for i, s := range order {
			for j, u := range order {
				same(t, "weight", d.Weights[i][j], c.Weights[s][u])
			}
		}
		e, got := impl.RenameStates(d, back)
		same(t, "there and back", impl.SameChain(c, e) && got == impl.OK, true)
	}
}

func TestRenameStatesErrors(t *testing.T) {
	c := readChain(t, "chain 3 4\nfrom 2 2 0\nfrom 1 2 1\nfrom 0 2 2\n")
	for _, order := range [][]int64{
		nil, {}, {0}, {0, 1}, {0, 1, 2, 2}, {0, 1, 2, 3}, {0, 0, 1}, {0, 1, 1}, {1, 2, 3}, {-1, 0, 1}, {0, 1, 3}, {0, 1, math.MaxInt64}, {0, 1, math.MinInt64},
	} {
		d, got := impl.RenameStates(c, order)
		code(t, "order", impl.ErrRange, d, got)
	}
	for name, bad := range invalidChains() {
		for _, order := range [][]int64{nil, {0}, {1, 0}, {5, 5}} {
			d, got := impl.RenameStates(bad, order)
			code(t, name, impl.ErrInvalid, d, got)
		}
	}
}
