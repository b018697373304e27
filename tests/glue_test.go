package tests

import (
	"math/big"
	"math/rand"
	"slices"
	"testing"

	"loop.example/g01118/impl"
)

// The tests of this file are about promise 8: couplings that are glued.

// gluedTable follows the words of the document for GlueJoints.
func gluedTable(j, k [][]*big.Rat) [][]*big.Rat {
	table := zeroTable(len(j), len(k[0]))
	for between, q := range rowSums(k) {
		for s := range j {
			for u := range k[0] {
				if q.Sign() > 0 {
					x := new(big.Rat).Mul(j[s][between], k[between][u])
					table[s][u].Add(table[s][u], x.Quo(x, q))
				}
			}
		}
	}
	return table
}

// chained returns couplings of one spread and a second one, of the second one
// and a third one, and so on.
func chained(r *rand.Rand, count int) [][][]impl.Fraction {
	whole, list := 1+r.Int63n(30), [][][]impl.Fraction{}
	parts := randomParts(r, 1+r.Int63n(6), whole)
	for range count {
		next := randomParts(r, 1+r.Int63n(6), whole)
		list = append(list, jointOfParts(filledParts(r, parts, next), whole))
		parts = next
	}
	return list
}

func TestGlueJoints(t *testing.T) {
	r := rand.New(rand.NewSource(81))
	for range 300 {
		list := chained(r, 3)
		first, second, third := list[0], list[1], list[2]
		glued, got := impl.GlueJoints(first, second)
		isTable(t, "glued", gluedTable(ratTable(first), ratTable(second)), glued, got)
		p, _ := impl.LeftOf(first)
		q, _ := impl.RightOf(second)
		isCoupling(t, "glued", glued, p, q)
		left, got := impl.GlueJoints(glued, third)
		same(t, "code", got, int64(impl.OK))
		later, _ := impl.GlueJoints(second, third)
		right, got := impl.GlueJoints(first, later)
		same(t, "in any order", right, left)
		same(t, "code", got, int64(impl.OK))
		turnedFirst, _ := impl.TurnJoint(first)
		turnedSecond, _ := impl.TurnJoint(second)
		back, _ := impl.GlueJoints(turnedSecond, turnedFirst)
		turned, _ := impl.TurnJoint(glued)
		same(t, "turned", back, turned)
	}
}

func TestGlueJointsEdges(t *testing.T) {
	r := rand.New(rand.NewSource(82))
	for range 100 {
		j := randomJoint(r, 1+r.Int63n(6), 1+r.Int63n(6))
		p, _ := impl.LeftOf(j)
		q, _ := impl.RightOf(j)
		far := randomSpread(r, 1+r.Int63n(6), 12)
		stayRight, _ := impl.BestJoint(q, q)
		stayLeft, _ := impl.StairJoint(p, p)
		apart, _ := impl.ApartJoint(q, far)
		apartBoth, _ := impl.ApartJoint(p, far)
		for _, one := range []struct {
			name        string
			first, next [][]impl.Fraction
			want        [][]impl.Fraction
		}{
			{"the same state on the right", j, stayRight, j},
			{"the same state on the left", stayLeft, j, j},
			{"apart stays apart", j, apart, apartBoth},
		} {
			glued, got := impl.GlueJoints(one.first, one.next)
			same(t, one.name, glued, one.want)
			same(t, one.name+": code", got, int64(impl.OK))
		}
	}
	// The state 1 between has the chance 0.
	j, got := impl.GlueJoints(jointOf("1/2 0 0", "1/4 0 1/4"), jointOf("3/4 0", "0 0", "0 1/4"))
	same(t, "a chance of 0 between", j, jointOf("1/2 0", "1/4 1/4"))
	same(t, "code", got, int64(impl.OK))
}

func TestGlueJointsErrors(t *testing.T) {
	good := jointOf("1/2 0", "0 1/2")
	for name, bad := range invalidJoints() {
		for _, other := range [][][]impl.Fraction{good, jointOf("1"), bad} {
			j, got := impl.GlueJoints(bad, other)
			code(t, name, impl.ErrInvalid, j, got)
			j, got = impl.GlueJoints(other, bad)
			code(t, name, impl.ErrInvalid, j, got)
		}
	}
	for _, pair := range [][2][][]impl.Fraction{
		{good, jointOf("1")}, {jointOf("1"), good}, {good, jointOf("1/4 1/4", "1/4 1/4", "0 0")}, {good, jointOf("1/4 0", "0 3/4")},
		{jointOf("1/4 1/4", "0 1/2"), jointOf("1/4 1/4", "0 1/2")}, {good, jointOf("0 1/2", "1/3 1/6", "0 0")},
		{{longSpread(300)}, {longSpread(299)[:1], longSpread(299)[1:]}},
	} {
		j, got := impl.GlueJoints(pair[0], pair[1])
		code(t, "other sides", impl.ErrState, j, got)
	}
	long := longJoint()
	turned, _ := impl.TurnJoint(long)
	j, got := impl.GlueJoints(turned, long)
	code(t, "sides of 318 digits", impl.ErrLimit, j, got)
	j, got = impl.GlueJoints(long, long)
	code(t, "sides of 318 digits", impl.ErrState, j, got)
	j, got = impl.GlueJoints(long, turned)
	code(t, "products of 318 digits", impl.ErrLimit, j, got)
	stay, _ := impl.StairJoint(longSpread(300), longSpread(300))
	j, got = impl.GlueJoints(stay, slices.Clone(stay))
	same(t, "longer on the way", j, stay)
	same(t, "code", got, int64(impl.OK))
}
