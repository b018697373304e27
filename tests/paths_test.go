package tests

import (
	"math"
	"math/rand"
	"slices"
	"testing"

	"loop.example/g01118/impl"
)

// The tests of this file are about promise 13: paths of a chain.

func TestIsPath(t *testing.T) {
	r := rand.New(rand.NewSource(321))
	kinds := map[bool]int{}
	for _, c := range connectedAndRings(r, 150) {
		for length := int64(1); length <= c.States; length++ {
			for list := make([]int64, length); list != nil; list = nextOrSkip(r, list, c.States) {
				is, got := impl.IsPath(c, list)
				same(t, "path", is, isPathIn(c, list))
				same(t, "code", got, int64(impl.OK))
				kinds[is]++
			}
		}
	}
	if kinds[true] < 1000 || kinds[false] < 1000 {
		t.Error("too few of one kind", kinds)
	}
}

// nextOrSkip returns the next list of states; of long ones it leaves most out.
func nextOrSkip(r *rand.Rand, list []int64, states int64) []int64 {
	next := nextList(list, states)
	for next != nil && len(list) > 3 && r.Intn(40) > 0 {
		next = nextList(next, states)
	}
	return next
}

func TestIsPathEdges(t *testing.T) {
	c := readChain(t, "chain 4 2\nfrom 1 1 0 0\nfrom 1 0 1 0\nfrom 0 0 1 1\nfrom 1 0 1 0\n")
	for _, one := range []struct {
		path []int64
		want bool
	}{
		{[]int64{0}, true}, {[]int64{3}, true}, {[]int64{0, 1}, true}, {[]int64{0, 1, 2, 3}, true}, {[]int64{3, 0, 1, 2}, true}, {[]int64{3, 2}, true},
		{[]int64{0, 0}, false}, {[]int64{2, 2}, false}, {[]int64{0, 2}, false}, {[]int64{2, 1}, false}, {[]int64{0, 1, 0}, false}, {[]int64{2, 3, 2}, false},
		{[]int64{0, 1, 2, 2}, false}, {[]int64{1, 2, 3, 1}, false}, {[]int64{0, 0, 1}, false}, {[]int64{0, 1, 3}, false}, {[]int64{0, 2, 3}, false}, {[]int64{3, 1, 2}, false},
	} {
		is, got := impl.IsPath(c, one.path)
		same(t, "path", is, one.want)
		same(t, "code", got, int64(impl.OK))
	}
}

// badPaths returns lists for which there is no answer whether they are paths of a
// chain with three states.
func badPaths() [][]int64 {
	return [][]int64{
		nil, {}, {-1}, {3}, {0, 3}, {3, 0}, {0, 1, -1}, {0, -1, 1}, {math.MaxInt64}, {math.MinInt64}, {0, 1, 2, 0}, {0, 0, 0, 0}, {0, 1, 0, 1, 0, 1, 0}, make([]int64, 1000000),
	}
}

func TestFirstPath(t *testing.T) {
	r := rand.New(rand.NewSource(322))
	lengths := map[int]int{}
	for _, c := range connectedAndRings(r, 600) {
		for s := range c.States {
			for u := range c.States {
				path, got := impl.FirstPath(c, s, u)
				same(t, "path", path, firstIn(c, s, u))
				same(t, "code", got, int64(impl.OK))
				is, _ := impl.IsPath(c, path)
				same(t, "is one", is, true)
				lengths[len(path)]++
			}
		}
	}
	for length := 1; length <= impl.MaxStates; length++ {
		if lengths[length] < 50 {
			t.Error("too few of one length", lengths)
		}
	}
}

// TestFirstPathOfAll looks at all lists, the shortest ones first, in lexicographic
// order.
func TestFirstPathOfAll(t *testing.T) {
	r := rand.New(rand.NewSource(323))
	for _, c := range connectedAndRings(r, 150) {
		if c.States > 4 {
			continue
		}
		for s := range c.States {
			for u := range c.States {
				path, got := impl.FirstPath(c, s, u)
				same(t, "path", path, firstOfAll(c, s, u))
				same(t, "code", got, int64(impl.OK))
			}
		}
	}
}

func firstOfAll(c impl.Chain, s, u int64) []int64 {
	for length := int64(1); length <= c.States; length++ {
		for list := make([]int64, length); list != nil; list = nextList(list, c.States) {
			if list[0] == s && list[length-1] == u && isPathIn(c, list) {
				return list
			}
		}
	}
	return nil
}

func TestFirstPathEdges(t *testing.T) {
	for _, one := range []struct {
		name, text string
		s, u       int64
		want       []int64
	}{
		{"one state", "chain 1 2\nfrom 2\n", 0, 0, []int64{0}},
		{"the same state", exampleCuts, 1, 1, []int64{1}},
		{"the same state, no step to itself", "chain 2 1\nfrom 0 1\nfrom 1 0\n", 1, 1, []int64{1}},
		{"one step, though others come before it", "chain 3 2\nfrom 0 1 1\nfrom 1 0 1\nfrom 1 1 0\n", 0, 2, []int64{0, 2}},
		{"two shortest ones", "chain 4 2\nfrom 0 1 1 0\nfrom 1 0 0 1\nfrom 1 0 0 1\nfrom 0 1 1 0\n", 0, 3, []int64{0, 1, 3}},
		{"two shortest ones back", "chain 4 2\nfrom 0 1 1 0\nfrom 1 0 0 1\nfrom 1 0 0 1\nfrom 0 1 1 0\n", 3, 0, []int64{3, 1, 0}},
		{"heavy steps do not matter", "chain 4 9\nfrom 0 1 8 0\nfrom 8 0 0 1\nfrom 1 0 0 8\nfrom 0 1 8 0\n", 0, 3, []int64{0, 1, 3}},
		{"the lesser state leads astray", "chain 5 2\nfrom 0 1 1 0 0\nfrom 1 0 0 1 0\nfrom 0 0 0 0 2\nfrom 0 0 0 0 2\nfrom 2 0 0 0 0\n", 0, 4, []int64{0, 2, 4}},
		{"all around", "chain 6 1\nfrom 0 1 0 0 0 0\nfrom 0 0 1 0 0 0\nfrom 0 0 0 1 0 0\nfrom 0 0 0 0 1 0\nfrom 0 0 0 0 0 1\nfrom 1 0 0 0 0 0\n", 3, 2, []int64{3, 4, 5, 0, 1, 2}},
		{"the second state decides", "chain 6 2\nfrom 0 1 1 0 0 0\nfrom 0 0 0 0 2 0\nfrom 0 0 0 2 0 0\nfrom 0 0 0 0 0 2\nfrom 0 0 0 0 0 2\nfrom 2 0 0 0 0 0\n", 0, 5, []int64{0, 1, 4, 5}},
	} {
		path, got := impl.FirstPath(readChain(t, one.text), one.s, one.u)
		same(t, one.name, path, one.want)
		same(t, one.name+": code", got, int64(impl.OK))
	}
}

func TestPathsOf(t *testing.T) {
	r := rand.New(rand.NewSource(324))
	for _, c := range connectedAndRings(r, 300) {
		paths, got := impl.PathsOf(c)
		same(t, "paths", paths, firstsIn(c, apartIn(c.States)))
		same(t, "code", got, int64(impl.OK))
		are, got := impl.ArePaths(c, paths)
		same(t, "are", are, true)
		same(t, "code", got, int64(impl.OK))
	}
	paths, got := impl.PathsOf(readChain(t, exampleCuts))
	same(t, "the example", paths, [][]int64{{0, 1}, {0, 1, 2}, {1, 0}, {1, 2}, {2, 1, 0}, {2, 1}})
	same(t, "code", got, int64(impl.OK))
}

func TestArePaths(t *testing.T) {
	r := rand.New(rand.NewSource(325))
	kinds := map[bool]int{}
	for _, c := range connectedAndRings(r, 150) {
		ends := apartIn(c.States)
		for range 5 {
			paths := randomPaths(r, c, ends)
			are, got := impl.ArePaths(c, paths)
			same(t, "paths", are, true)
			same(t, "code", got, int64(impl.OK))
			for _, list := range spoiltPaths(r, c, paths) {
				are, got = impl.ArePaths(c, list)
				same(t, "paths", are, arePathsIn(c, ends, list))
				same(t, "code", got, int64(impl.OK))
				kinds[are]++
			}
		}
	}
	if kinds[true] < 100 || kinds[false] < 1000 {
		t.Error("too few of one kind", kinds)
	}
}

// TestArePathsEdges has lists that are no paths: there is no ErrRange.
func TestArePathsEdges(t *testing.T) {
	c := readChain(t, exampleCuts)
	good := [][]int64{{0, 1}, {0, 1, 2}, {1, 0}, {1, 2}, {2, 1, 0}, {2, 1}}
	for at := range good {
		for _, bad := range append(badPaths(), []int64{0, 2}, []int64{2, 0}, []int64{0}, []int64{1}, []int64{2}, []int64{0, 0}, []int64{0, 1, 1}, []int64{2, 2, 1}) {
			list := slices.Clone(good)
			list[at] = bad
			are, got := impl.ArePaths(c, list)
			same(t, "one is no path", are, false)
			same(t, "code", got, int64(impl.OK))
			x, step, got := impl.CongestionOf(c, list)
			code(t, "one is no path", impl.ErrProof, x, step, got)
			x, got = impl.ComparisonOf(c, readChain(t, "chain 3 2\nfrom 0 1 1\nfrom 1 0 1\nfrom 1 1 0\n"), list)
			code(t, "one is no path", impl.ErrProof, x, got)
		}
	}
	one := readChain(t, "chain 1 1\nfrom 1\n")
	for _, list := range [][][]int64{{{0}}, {nil}, {{0, 0}}, {{-1}}, {{0}, {0}}} {
		are, got := impl.ArePaths(one, list)
		same(t, "one state has no paths", are, false)
		same(t, "code", got, int64(impl.OK))
	}
	for _, list := range [][][]int64{nil, {}} {
		are, got := impl.ArePaths(one, list)
		same(t, "one state needs no paths", are, true)
		same(t, "code", got, int64(impl.OK))
	}
	paths, got := impl.PathsOf(one)
	same(t, "no paths", paths, [][]int64{})
	same(t, "code", got, int64(impl.OK))
}

func pathCodes(t *testing.T, name string, want int64, c impl.Chain, list []int64) {
	t.Helper()
	is, got := impl.IsPath(c, list)
	code(t, name, want, is, got)
}

func TestPathErrors(t *testing.T) {
	for name, bad := range invalidChains() {
		for _, list := range append(badPaths(), []int64{0}, []int64{0, 1}) {
			pathCodes(t, name, impl.ErrInvalid, bad, list)
			are, got := impl.ArePaths(bad, [][]int64{list})
			code(t, name, impl.ErrInvalid, are, got)
		}
		for _, s := range append(badStates(), 0, 1) {
			path, got := impl.FirstPath(bad, s, 0)
			code(t, name, impl.ErrInvalid, path, got)
			path, got = impl.FirstPath(bad, 0, s)
			code(t, name, impl.ErrInvalid, path, got)
		}
		paths, got := impl.PathsOf(bad)
		code(t, name, impl.ErrInvalid, paths, got)
	}
	for _, c := range []impl.Chain{readChain(t, exampleCuts), readChain(t, twoEnds), walkOn(3, 2, 1)} {
		for _, list := range badPaths() {
			pathCodes(t, "no states", impl.ErrRange, c, list)
		}
		for _, s := range badStates() {
			for _, ends := range [][2]int64{{s, 0}, {0, s}, {s, s}} {
				path, got := impl.FirstPath(c, ends[0], ends[1])
				code(t, "no state", impl.ErrRange, path, got)
			}
		}
	}
	for _, c := range parted(t) {
		for s := range c.States {
			for u := range c.States {
				path, got := impl.FirstPath(c, s, u)
				code(t, "FirstPath", impl.ErrState, path, got)
				pathCodes(t, "IsPath", impl.ErrState, c, []int64{s, u})
				pathCodes(t, "IsPath", impl.ErrState, c, []int64{u})
			}
		}
		for _, list := range [][][]int64{nil, {}, {nil}, {{0}}, {{0, 1}, {1, 0}}} {
			are, got := impl.ArePaths(c, list)
			code(t, "ArePaths", impl.ErrState, are, got)
		}
		paths, got := impl.PathsOf(c)
		code(t, "PathsOf", impl.ErrState, paths, got)
	}
}
