package tests

import (
	"maps"
	"math"
	"math/rand"
	"reflect"
	"slices"
	"strings"
	"testing"

	"loop.example/g01118/impl"
)

// The tests of this file are about promise 1: every function returns for all
// arguments, modifies no argument, and returns equal results for equal ones.

// chapter1 has the functions of chapter 1.
var chapter1 = map[string]any{
	"CodeName": impl.CodeName, "ValidFraction": impl.ValidFraction, "FractionOf": impl.FractionOf, "FractionText": impl.FractionText,
	"AddFraction": impl.AddFraction, "LessFraction": impl.LessFraction, "MulFraction": impl.MulFraction, "DivFraction": impl.DivFraction,
	"CompareFraction": impl.CompareFraction, "ValidChain": impl.ValidChain, "SameChain": impl.SameChain, "ChainText": impl.ChainText,
	"ReadChain": impl.ReadChain, "ValidSpread": impl.ValidSpread, "SureSpread": impl.SureSpread, "EvenSpread": impl.EvenSpread,
	"MixSpreads": impl.MixSpreads, "SpreadAfter": impl.SpreadAfter, "ChanceAfter": impl.ChanceAfter, "ExpectedValue": impl.ExpectedValue,
	"LazyChain": impl.LazyChain, "MixChains": impl.MixChains, "ThenChain": impl.ThenChain, "SkipChain": impl.SkipChain,
	"BesideChain": impl.BesideChain, "RenameStates": impl.RenameStates, "IsEven": impl.IsEven, "StepByDraw": impl.StepByDraw,
	"RunByDraws": impl.RunByDraws,
}

// chapter2 has the functions of chapter 2.
var chapter2 = map[string]any{
	"CanReach": impl.CanReach, "ClassesOf": impl.ClassesOf, "ClosedClasses": impl.ClosedClasses, "IsConnected": impl.IsConnected,
	"PeriodOf": impl.PeriodOf, "TreeWeights": impl.TreeWeights, "StationarySpread": impl.StationarySpread, "IsStationary": impl.IsStationary,
	"LongSpread": impl.LongSpread, "IsReversible": impl.IsReversible, "FirstMisfit": impl.FirstMisfit, "ReversedChain": impl.ReversedChain,
	"HitChances": impl.HitChances, "HitTimes": impl.HitTimes, "EndChances": impl.EndChances, "VisitsBefore": impl.VisitsBefore,
	"EntryChances": impl.EntryChances, "ReturnTime": impl.ReturnTime, "PassageTimes": impl.PassageTimes, "KemenyTime": impl.KemenyTime,
	"WatchedChain": impl.WatchedChain,
}

// chapter3 has the functions of chapter 3.
var chapter3 = map[string]any{
	"DistanceOf": impl.DistanceOf, "OverlapOf": impl.OverlapOf, "SeparationOf": impl.SeparationOf, "BestEvent": impl.BestEvent,
	"ValidJoint": impl.ValidJoint, "LeftOf": impl.LeftOf, "RightOf": impl.RightOf, "MeetChance": impl.MeetChance, "TurnJoint": impl.TurnJoint,
	"ApartJoint": impl.ApartJoint, "BestJoint": impl.BestJoint, "StairJoint": impl.StairJoint, "GlueJoints": impl.GlueJoints,
	"JointCost": impl.JointCost, "LeastCost": impl.LeastCost, "CheapestJoint": impl.CheapestJoint, "FindPrices": impl.FindPrices,
	"PriceBound": impl.PriceBound,
}

// chapter4 has the functions of chapter 4.
var chapter4 = map[string]any{
	"ValidCoupled": impl.ValidCoupled, "SameCoupled": impl.SameCoupled, "ApartCoupled": impl.ApartCoupled, "StairCoupled": impl.StairCoupled,
	"BestCoupled": impl.BestCoupled, "StickyCoupled": impl.StickyCoupled, "PairStep": impl.PairStep, "JointAfter": impl.JointAfter,
	"NotMetAfter": impl.NotMetAfter, "SurelyMeets": impl.SurelyMeets, "ExpectedMeeting": impl.ExpectedMeeting, "RowDistance": impl.RowDistance,
	"WorstDistance": impl.WorstDistance, "MixingTime": impl.MixingTime, "RoadLengths": impl.RoadLengths, "PairFactor": impl.PairFactor,
	"RoadFactor": impl.RoadFactor, "WholeFactor": impl.WholeFactor, "RoadBound": impl.RoadBound,
}

// chapter5 has the functions of chapter 5.
var chapter5 = map[string]any{
	"ValidMaps": impl.ValidMaps, "SameMaps": impl.SameMaps, "MapsText": impl.MapsText, "ReadMaps": impl.ReadMaps, "ChainOfMaps": impl.ChainOfMaps,
	"AreMapsOf": impl.AreMapsOf, "MapsByDraws": impl.MapsByDraws, "TidyMaps": impl.TidyMaps, "ThenMaps": impl.ThenMaps, "ApplyPicks": impl.ApplyPicks,
	"CanCoalesce": impl.CanCoalesce, "CoalescedAfter": impl.CoalescedAfter, "ExpectedCoalescence": impl.ExpectedCoalescence,
	"PastChances": impl.PastChances, "ForwardChances": impl.ForwardChances, "PastRun": impl.PastRun, "WindowRun": impl.WindowRun,
	"ForwardRun": impl.ForwardRun, "ValidOrder": impl.ValidOrder, "LineOrder": impl.LineOrder, "EndsOf": impl.EndsOf, "IsMonotone": impl.IsMonotone,
	"SandwichRun": impl.SandwichRun, "SpreadBelow": impl.SpreadBelow,
}

// chapter6 has the functions of chapter 6.
var chapter6 = map[string]any{
	"FlowBetween": impl.FlowBetween, "CutRatio": impl.CutRatio, "Conductance": impl.Conductance, "MeanOf": impl.MeanOf, "VarianceOf": impl.VarianceOf,
	"FormOf": impl.FormOf, "GapQuotient": impl.GapQuotient, "GapRange": impl.GapRange, "IsPath": impl.IsPath, "FirstPath": impl.FirstPath,
	"PathsOf": impl.PathsOf, "ArePaths": impl.ArePaths, "CongestionOf": impl.CongestionOf, "StepPaths": impl.StepPaths,
	"ComparisonOf": impl.ComparisonOf, "EscapeChance": impl.EscapeChance, "CommuteTime": impl.CommuteTime,
}

// chapter7 has the functions of chapter 7.
var chapter7 = map[string]any{
	"ValidStops": impl.ValidStops, "StoppedAt": impl.StoppedAt, "LeftOver": impl.LeftOver, "StopSpread": impl.StopSpread, "StopTime": impl.StopTime,
	"IsStrong": impl.IsStrong, "FirstWeak": impl.FirstWeak, "StrongStops": impl.StrongStops, "FillingStops": impl.FillingStops, "AccessTime": impl.AccessTime,
	"DeckAt": impl.DeckAt, "DeckNumber": impl.DeckNumber, "ShuffleChain": impl.ShuffleChain, "RisingRuns": impl.RisingRuns, "RiffleChance": impl.RiffleChance,
	"CollectorChance": impl.CollectorChance, "CollectorTime": impl.CollectorTime,
}

// chapter8 has the functions of chapter 8.
var chapter8 = map[string]any{
	"ValidGraph": impl.ValidGraph, "SameGraph": impl.SameGraph, "GraphText": impl.GraphText, "ReadGraph": impl.ReadGraph, "IsColouring": impl.IsColouring,
	"CountColourings": impl.CountColourings, "ColouringsOf": impl.ColouringsOf, "FreeColours": impl.FreeColours, "Recolour": impl.Recolour, "RecolourChance": impl.RecolourChance,
	"SpreadOfColourings": impl.SpreadOfColourings, "CanRecolour": impl.CanRecolour, "ColourChances": impl.ColourChances, "CountByChances": impl.CountByChances,
	"EdgeRatio": impl.EdgeRatio, "ColourPolynomial": impl.ColourPolynomial, "IsIndependent": impl.IsIndependent, "IndependentCounts": impl.IndependentCounts,
	"ChangeSet": impl.ChangeSet, "ChangeChance": impl.ChangeChance, "SetChance": impl.SetChance, "NodeChance": impl.NodeChance, "MatchingCounts": impl.MatchingCounts,
	"LineGraph": impl.LineGraph,
}

// chapter9 has the functions of chapter 9.
var chapter9 = map[string]any{
	"DrawsOf": impl.DrawsOf, "WindowByDraws": impl.WindowByDraws, "WindowOf": impl.WindowOf, "SampleOf": impl.SampleOf, "ValidService": impl.ValidService,
	"ValidRecord": impl.ValidRecord, "JournalText": impl.JournalText, "ReadJournal": impl.ReadJournal, "DeskAfter": impl.DeskAfter, "ValidDeed": impl.ValidDeed,
	"DeedText": impl.DeedText, "ReadDeed": impl.ReadDeed, "PlantAfter": impl.PlantAfter, "RefusedDeed": impl.RefusedDeed, "HandedOut": impl.HandedOut,
	"FinishDeeds": impl.FinishDeeds, "RunScript": impl.RunScript,
}

// pool has arguments of each type, valid and invalid ones.
func pool(r *rand.Rand) map[reflect.Type][]any {
	numbers := []any{}
	for _, n := range []int64{math.MinInt64, -1, 0, 0, 1, 1, 2, 3, 4, 5, 6, 7, 8, 9, 39, 40, 41, 59, 60, 61, 64, 65, impl.MaxSeed, 1 << 32, math.MaxInt64} {
		numbers = append(numbers, n)
	}
	fractions := []any{impl.Fraction{}}
	for _, text := range []string{"0", "1", "2", "1/2", "2/3", "7/3", "2/4", "1/0", "0/2", "x", nines(300), "1/" + nines(300), nines(300) + "/" + tenTo(299), tenTo(300)} {
		fractions = append(fractions, frac(text))
	}
	spreads := []any{longSpread(300), longSpread(20)}
	for _, p := range invalidSpreads() {
		if len(p) < 100 {
			spreads = append(spreads, p)
		}
	}
	chains, texts := []any{}, []any{"", "chain", "chain 1 1\nfrom 1", strings.Repeat("chain ", 700)}
	for _, c := range invalidChains() {
		chains = append(chains, c)
		texts = append(texts, textOf(c))
	}
	lists := []any{[]int64(nil), []int64{}, []int64{-1}, []int64{61}, make([]int64, 200), make([]int64, 201)}
	for range 60 {
		c := randomChain(r)
		switch r.Intn(4) {
		case 0, 1:
			c = smallChain(r, 1+r.Int63n(3))
		case 2:
			c = sparseChain(r, 1+r.Int63n(6))
		}
		chains = append(chains, c)
		texts = append(texts, textOf(c))
		spreads = append(spreads, randomSpread(r, c.States, 1+r.Int63n(1000)))
		lists = append(lists, randomParts(r, 1+r.Int63n(6), r.Int63n(60)))
		order := []int64{}
		for _, s := range r.Perm(1 + r.Intn(6)) {
			order = append(order, int64(s))
		}
		sets := setsOf(c.States)
		lists = append(lists, order, sets[r.Intn(len(sets))])
	}
	for _, deck := range badDecks() {
		if len(deck) < 100 {
			lists = append(lists, deck)
		}
	}
	joints, costs := couplingPool(r)
	joints = append(joints, stopPool(r)...)
	values, paths := cutPool(r, chains)
	spreads, costs = append(spreads, values...), append(costs, paths...)
	coupled, roads := meetingPool(r)
	randoms, orders := pastPool(r)
	for _, m := range randoms {
		texts = append(texts, mapsTextOf(m.(impl.Maps)))
	}
	graphs, graphTexts, colours := graphPool(r)
	texts, lists = append(texts, graphTexts...), append(lists, colours...)
	all := map[reflect.Type][]any{}
	for _, list := range [][]any{numbers, fractions, spreads, chains, texts, lists, joints, costs, coupled, roads, randoms, orders, graphs} {
		all[reflect.TypeOf(list[0])] = list
	}
	for _, one := range samplerPool(r) {
		all[reflect.TypeOf(one)] = append(all[reflect.TypeOf(one)], one)
	}
	return all
}

// couplingPool has joint spreads and costs, valid and invalid ones.
func couplingPool(r *rand.Rand) (joints, costs []any) {
	joints = append(joints, longJoint(), jointOf("1"))
	for _, j := range invalidJoints() {
		if len(j) < 100 && (len(j) == 0 || len(j[0]) < 100) {
			joints = append(joints, j)
		}
	}
	costs = append(costs, flatCosts(2, 2, impl.MaxCost), flatCosts(3, 2, -1), [][]int64(nil), [][]int64{{}}, [][]int64{nil, {1}})
	for range 60 {
		lefts, rights := 1+r.Int63n(4), 1+r.Int63n(4)
		joints = append(joints, randomJoint(r, lefts, rights))
		costs = append(costs, randomCosts(r, lefts, rights, 1+r.Int63n(1003)))
	}
	return joints, costs
}

// meetingPool has coupled chains and roads, valid and invalid ones.
func meetingPool(r *rand.Rand) (coupled, roads []any) {
	for _, m := range invalidCoupled() {
		if len(m.Weights) < 100 && (len(m.Weights) == 0 || len(slices.Concat(m.Weights...)) < 100) {
			coupled = append(coupled, m)
		}
	}
	for _, list := range badRoads() {
		if len(list) < 100 {
			roads = append(roads, list)
		}
	}
	for range 60 {
		coupled = append(coupled, randomCoupled(r, smallChain(r, 1+r.Int63n(2))))
		roads = append(roads, connectedRoads(r, 1+r.Int63n(6)), randomRoads(r, 1+r.Int63n(6), r.Int63n(21)))
	}
	return coupled, roads
}

// pastPool has maps and orders, valid and invalid ones.
func pastPool(r *rand.Rand) (randoms, orders []any) {
	for _, m := range invalidMaps() {
		randoms = append(randoms, m)
	}
	for _, below := range badOrders() {
		if len(below) < 100 && (len(below) == 0 || len(below[0]) < 100) {
			orders = append(orders, below)
		}
	}
	for _, m := range mapsOfAllKinds(r, 80) {
		randoms = append(randoms, m)
		below := randomOrder(r, m.States, r.Intn(101))
		orders = append(orders, below)
		if len(m.List) < 10 {
			randoms = append(randoms, monotoneMaps(r, below))
		}
	}
	return randoms, orders
}

// cutPool has values for chains, and paths of those that are connected.
func cutPool(r *rand.Rand, chains []any) (values, paths []any) {
	for _, list := range slices.Concat(badValues(), otherCounts()) {
		if len(list) < 100 {
			values = append(values, list)
		}
	}
	for _, one := range chains {
		c := one.(impl.Chain)
		if impl.ValidChain(c) && isConnected(c) {
			values = append(values, randomValues(r, c.States))
			paths = append(paths, randomPaths(r, c, apartIn(c.States)), randomPaths(r, c, stepsIn(c)))
		}
	}
	return values, paths
}

// stopPool has stops, valid and invalid ones.
func stopPool(r *rand.Rand) (stops []any) {
	for _, list := range invalidStops() {
		if len(list) < 100 && (len(list) == 0 || len(list[0]) < 100) {
			stops = append(stops, list)
		}
	}
	for range 60 {
		states := 1 + r.Int63n(impl.MaxStates)
		stops = append(stops, randomStops(r, states, r.Int63n(impl.MaxTimes+1)), surelyStopped(r, states), shortStops(r, states, r.Int63n(4)))
	}
	return stops
}

// graphPool has graphs, valid and invalid ones, their texts, and lists of colours
// and parts.
func graphPool(r *rand.Rand) (graphs, texts, lists []any) {
	for _, g := range invalidGraphs() {
		if len(slices.Concat(g.Edges...))+len(g.Edges) < 100 {
			graphs, texts = append(graphs, g), append(texts, graphTextOf(g))
		}
	}
	for range 100 {
		g, q := randomGraph(r), 1+r.Int63n(impl.MaxColours)
		graphs, texts = append(graphs, g), append(texts, graphTextOf(g))
		lists = append(lists, randomPart(r, g, q))
		if all := colouringsIn(g, q); len(all) > 0 {
			lists = append(lists, all[r.Intn(len(all))])
		}
	}
	return graphs, texts, lists
}

// samplerPool has services, records, deeds and their texts, valid and invalid ones.
func samplerPool(r *rand.Rand) []any {
	list := []any{}
	for _, c := range invalidChains() {
		list = append(list, impl.Service{Chain: c, Base: 1, Samples: 1, Workers: 1})
	}
	for _, d := range invalidDeeds() {
		list = append(list, d, []impl.Deed{d}, []impl.Deed{deed(impl.DdSync, 0), d})
	}
	for range 60 {
		v := impl.Service{Chain: smallChain(r, 1+r.Int63n(3)), Base: r.Int63n(100), Samples: 1 + r.Int63n(impl.MaxSamples), Workers: 1 + r.Int63n(impl.MaxWorkers)}
		records, lines := fittingRecords(r, v, r.Intn(8)), []string{}
		deeds, _ := someDeeds(r, v, r.Intn(60))
		for _, d := range deeds {
			list, lines = append(list, d), append(lines, deedLine(d))
		}
		for _, one := range records {
			list = append(list, one)
		}
		list = append(list, v, records, deeds, recordLines(records), recordLines(records)+"up 0", strings.Join(lines, "\n"), deedLine(deed(impl.DdQuit, r.Int63n(1000))))
	}
	for _, one := range invalidRecords(impl.Service{Chain: impl.Chain{States: 2}, Samples: 2}) {
		list = append(list, one, []impl.Record{one})
	}
	return append(list, slices.Repeat(deedsOf("work 0"), impl.MaxDeeds), slices.Repeat(deedsOf("work 0"), impl.MaxDeeds+1), "handed\nlevels\njournal")
}

// copyOf copies a value with everything that it leads to. All slices get spare
// memory behind them, which is 0; empty slices become nil or the other way round,
// if turn is set.
func copyOf(v reflect.Value, spare int, turn bool) reflect.Value {
	to := reflect.New(v.Type()).Elem()
	switch v.Kind() {
	case reflect.Slice:
		if v.Len() == 0 && v.IsNil() != turn {
			return to
		}
		to.Set(reflect.MakeSlice(v.Type(), v.Len(), v.Len()+spare))
		for i := range v.Len() {
			to.Index(i).Set(copyOf(v.Index(i), spare, turn))
		}
	case reflect.Struct:
		for i := range v.NumField() {
			to.Field(i).Set(copyOf(v.Field(i), spare, turn))
		}
	default:
		to.Set(v)
	}
	return to
}

// slicesIn calls see for each slice that can be reached from a value.
func slicesIn(v reflect.Value, see func(reflect.Value)) {
	switch v.Kind() {
	case reflect.Slice:
		see(v)
		for i := range v.Len() {
			slicesIn(v.Index(i), see)
		}
	case reflect.Struct:
		for i := range v.NumField() {
			slicesIn(v.Field(i), see)
		}
	}
}

func spareIsZero(values []reflect.Value) bool {
	isZero := true
	for _, v := range values {
		slicesIn(v, func(list reflect.Value) {
			for i := list.Len(); i < list.Cap(); i++ {
				isZero = isZero && list.Slice(0, list.Cap()).Index(i).IsZero()
			}
		})
	}
	return isZero
}

// shareMemory reports whether any two slices, with their spare memory, overlap.
func shareMemory(values []reflect.Value) bool {
	type span struct{ from, to uintptr }
	spans := []span{}
	shared := false
	for _, v := range values {
		slicesIn(v, func(list reflect.Value) {
			one := span{list.Pointer(), list.Pointer() + uintptr(list.Cap())*list.Type().Elem().Size()}
			for _, other := range spans {
				shared = shared || one.from < other.to && other.from < one.to
			}
			if one.from < one.to {
				spans = append(spans, one)
			}
		})
	}
	return shared
}

// scribble writes into all slices that can be reached from values.
func scribble(values []reflect.Value) {
	for _, v := range values {
		slicesIn(v, func(list reflect.Value) {
			for i := range list.Len() {
				scribbleOn(list.Index(i))
			}
		})
	}
}

func scribbleOn(v reflect.Value) {
	switch v.Kind() {
	case reflect.Int64:
		v.SetInt(-77)
	case reflect.Bool:
		v.SetBool(!v.Bool())
	case reflect.String:
		v.SetString("scribbled")
	case reflect.Struct:
		for i := range v.NumField() {
			scribbleOn(v.Field(i))
		}
	}
}

func copies(values []reflect.Value, spare int, turn bool) []reflect.Value {
	list := []reflect.Value{}
	for _, v := range values {
		list = append(list, copyOf(v, spare, turn))
	}
	return list
}

func alike(a, b []reflect.Value) bool {
	for i := range a {
		if !reflect.DeepEqual(a[i].Interface(), b[i].Interface()) {
			return false
		}
	}
	return true
}

// call calls a function and checks all that promise 1 says of it.
func call(t *testing.T, name string, f reflect.Value, args []reflect.Value) {
	t.Helper()
	defer func() {
		if problem := recover(); problem != nil {
			t.Fatalf("%s%v: panic %v", name, args, problem)
		}
	}()
	given := copies(args, 3, false)
	results := f.Call(given)
	if !alike(given, copies(args, 3, false)) || !spareIsZero(given) {
		t.Fatalf("%s%v: an argument has become %v", name, args, given)
	}
	if shareMemory(append(given, results...)) {
		t.Fatalf("%s%v: memory is shared: %v", name, args, results)
	}
	before := copies(results, 0, false)
	scribble(results)
	again := f.Call(copies(args, 0, true))
	if !alike(copies(again, 0, false), before) {
		t.Fatalf("%s%v: got %v, and then %v", name, args, before, again)
	}
	last := len(again) - 1
	if last == 0 || again[last].Int() == impl.OK {
		return
	}
	for _, result := range again[:last] {
		if !result.IsZero() && !(result.Kind() == reflect.Slice && result.Len() == 0) {
			t.Fatalf("%s%v: got %v together with an error", name, args, again)
		}
	}
}

func TestAllArguments(t *testing.T) {
	r := rand.New(rand.NewSource(1))
	all := pool(r)
	for _, chapter := range []map[string]any{chapter1, chapter2, chapter3, chapter4, chapter5, chapter6, chapter7, chapter8, chapter9} {
		for _, name := range slices.Sorted(maps.Keys(chapter)) {
			f := reflect.ValueOf(chapter[name])
			for range 2000 {
				args := []reflect.Value{}
				for i := range f.Type().NumIn() {
					list := all[f.Type().In(i)]
					args = append(args, reflect.ValueOf(list[r.Intn(len(list))]))
				}
				call(t, name, f, args)
			}
		}
	}
}

// fitting is a function with arguments that fit one another.
type fitting struct {
	name string
	args []any
}

// callFitting calls functions of a chapter, all of which have to return OK or no
// code.
func callFitting(t *testing.T, chapter map[string]any, list []fitting) {
	t.Helper()
	for _, one := range list {
		args := []reflect.Value{}
		for _, arg := range one.args {
			args = append(args, reflect.ValueOf(arg))
		}
		f := reflect.ValueOf(chapter[one.name])
		call(t, one.name, f, args)
		results := f.Call(args)
		if last := results[len(results)-1]; last.Kind() == reflect.Int64 {
			same(t, one.name+": code", last.Int(), int64(impl.OK))
		} else {
			same(t, one.name, last.Bool(), true)
		}
	}
}

func TestCouplingArguments(t *testing.T) {
	r := rand.New(rand.NewSource(2))
	for range 100 {
		whole := 1 + r.Int63n(30)
		left, right := randomSides(r, 1+r.Int63n(6), 1+r.Int63n(6), whole)
		p, q, costs := partsOf(left), partsOf(right), randomCosts(r, int64(len(left)), int64(len(right)), 1+r.Int63n(9))
		other := partsOf(randomParts(r, int64(len(left)), 7))
		j, turned := jointOfParts(filledParts(r, left, right), whole), jointOfParts(filledParts(r, right, left), whole)
		low, high := make([]int64, len(left)), make([]int64, len(right))
		callFitting(t, chapter3, []fitting{
			{"DistanceOf", []any{p, other}}, {"OverlapOf", []any{p, other}}, {"SeparationOf", []any{p, other}}, {"BestEvent", []any{p, other}}, {"BestJoint", []any{p, other}},
			{"ApartJoint", []any{p, q}}, {"StairJoint", []any{p, q}}, {"GlueJoints", []any{j, turned}}, {"GlueJoints", []any{turned, j}}, {"JointCost", []any{j, costs}},
			{"LeastCost", []any{p, q, costs}}, {"CheapestJoint", []any{p, q, costs}}, {"FindPrices", []any{p, q, costs}}, {"PriceBound", []any{p, q, costs, low, high}},
		})
	}
}

func TestMeetingArguments(t *testing.T) {
	r := rand.New(rand.NewSource(3))
	for range 60 {
		c := randomChainOf(r, 1+r.Int63n(impl.MaxMet), 1+r.Int63n(20))
		s, u, steps := r.Int63n(c.States), r.Int63n(c.States), r.Int63n(impl.MaxSteps+1)
		for _, one := range couplingsOf(t, r, c) {
			m, sticky := one.m, []any{c, one.m}
			callFitting(t, chapter4, []fitting{
				{"ValidCoupled", sticky}, {"SameCoupled", []any{m, m}}, {"StickyCoupled", sticky}, {"PairStep", []any{c, m, s, u, r.Int63n(m.Total)}},
				{"JointAfter", []any{c, m, s, u, steps}}, {"NotMetAfter", []any{c, m, s, u, steps}}, {"ExpectedMeeting", []any{c, m, s, s}},
			})
			call(t, "SurelyMeets", reflect.ValueOf(impl.SurelyMeets), []reflect.Value{reflect.ValueOf(c), reflect.ValueOf(m), reflect.ValueOf(s), reflect.ValueOf(u)})
			call(t, "ExpectedMeeting", reflect.ValueOf(impl.ExpectedMeeting), []reflect.Value{reflect.ValueOf(c), reflect.ValueOf(m), reflect.ValueOf(s), reflect.ValueOf(u)})
		}
		d := randomChainOf(r, 2+r.Int63n(impl.MaxStates-1), 1+r.Int63n(impl.MaxTotal))
		roads, lengths, last := connectedRoads(r, d.States), randomLengths(r, d.States), d.States-1
		callFitting(t, chapter4, []fitting{
			{"ApartCoupled", []any{c}}, {"StairCoupled", []any{c}}, {"BestCoupled", []any{c}}, {"RowDistance", []any{d, int64(0), last, steps}}, {"WorstDistance", []any{d, steps}},
			{"MixingTime", []any{d, frac("1")}}, {"RoadLengths", []any{d.States, roads}}, {"PairFactor", []any{d, lengths, last, int64(0)}}, {"RoadFactor", []any{d, roads}},
			{"WholeFactor", []any{d, roads}}, {"RoadBound", []any{d, roads, steps}},
		})
	}
}

func TestPastArguments(t *testing.T) {
	r := rand.New(rand.NewSource(4))
	for _, m := range mapsOfAllKinds(r, 100) {
		c, _ := impl.ChainOfMaps(m)
		n, steps := weighted(r, m.States, 1, [][]int64{randomTo(r, m.States)}), r.Int63n(impl.MaxSteps+1)
		below := randomEnded(r, m.States)
		kept, p, q := monotoneMaps(r, below), randomSpread(r, m.States, 30), randomSpread(r, m.States, 20)
		sure := weighted(r, m.States, 1, [][]int64{make([]int64, m.States)})
		picks, zeros := randomPicks(r, m, r.Intn(impl.MaxPicks+1)), make([]int64, 1+r.Intn(impl.MaxPicks))
		callFitting(t, chapter5, []fitting{
			{"ValidMaps", []any{m}}, {"SameMaps", []any{m, m}}, {"ReadMaps", []any{mapsTextOf(m)}}, {"ChainOfMaps", []any{m}}, {"AreMapsOf", []any{c, m}}, {"MapsByDraws", []any{c}},
			{"TidyMaps", []any{m}}, {"ThenMaps", []any{m, n}}, {"ThenMaps", []any{n, m}}, {"ApplyPicks", []any{m, picks}}, {"CanCoalesce", []any{m}}, {"CoalescedAfter", []any{m, steps}},
			{"PastChances", []any{m, steps}}, {"ForwardChances", []any{m, steps}}, {"PastRun", []any{sure, zeros}}, {"WindowRun", []any{sure, zeros}}, {"ForwardRun", []any{sure, zeros}},
			{"ValidOrder", []any{m.States, below}}, {"LineOrder", []any{m.States}}, {"EndsOf", []any{below}}, {"IsMonotone", []any{kept, below}}, {"SandwichRun", []any{sure, below, zeros}},
			{"SpreadBelow", []any{p, q, below}},
		})
		for _, run := range []string{"PastRun", "WindowRun", "ForwardRun"} {
			call(t, run, reflect.ValueOf(chapter5[run]), []reflect.Value{reflect.ValueOf(m), reflect.ValueOf(picks)})
		}
		call(t, "SandwichRun", reflect.ValueOf(impl.SandwichRun), []reflect.Value{reflect.ValueOf(kept), reflect.ValueOf(below), reflect.ValueOf(randomPicks(r, kept, 20))})
		call(t, "ExpectedCoalescence", reflect.ValueOf(impl.ExpectedCoalescence), []reflect.Value{reflect.ValueOf(m)})
		call(t, "MapsText", reflect.ValueOf(impl.MapsText), []reflect.Value{reflect.ValueOf(m)})
	}
}

func TestCutArguments(t *testing.T) {
	r := rand.New(rand.NewSource(5))
	for _, both := range twoChains(r, 150) {
		c, d := both[0], both[1]
		values, sets := slices.Repeat(fracs("0"), int(c.States)), everySet(c.States)
		values[0] = frac("3/7")
		a, b, set := sets[r.Intn(len(sets))], sets[r.Intn(len(sets))], sets[1+r.Intn(len(sets)-1)]
		all, some := randomPaths(r, c, apartIn(c.States)), randomPaths(r, c, stepsIn(d))
		s, u := r.Int63n(c.States), r.Int63n(c.States)
		callFitting(t, chapter6, []fitting{
			{"FlowBetween", []any{c, a, b}}, {"CutRatio", []any{c, set}}, {"MeanOf", []any{c, values}}, {"VarianceOf", []any{c, values}}, {"FormOf", []any{c, values}},
			{"IsPath", []any{c, []int64{s, u}[:1]}}, {"FirstPath", []any{c, s, u}}, {"PathsOf", []any{c}}, {"ArePaths", []any{c, all}}, {"StepPaths", []any{c, d}},
			{"ComparisonOf", []any{c, d, some}},
		})
		if c.States > 1 {
			callFitting(t, chapter6, []fitting{
				{"Conductance", []any{c}}, {"GapQuotient", []any{c, values}}, {"CongestionOf", []any{c, all}}, {"EscapeChance", []any{c, s, (s + 1) % c.States}},
				{"CommuteTime", []any{c, s, (s + 1) % c.States}}, {"GapRange", []any{reversiblePair(r)}},
			})
		}
	}
}

func TestStopArguments(t *testing.T) {
	r := rand.New(rand.NewSource(6))
	for _, c := range connectedAndRings(r, 150) {
		p, q, times := startOf(r, c.States), startOf(r, c.States), r.Int63n(impl.MaxTimes+1)
		stops := shortStops(r, c.States, times)
		whole := append(shortStops(r, c.States, r.Int63n(impl.MaxTimes)), flatStops(c.States, 1, "1")...)
		few, cards := r.Int63n(4), 1+r.Int63n(impl.MaxCards)
		decks := knownDecks()[cards-1]
		deck, kinds := decks[r.Intn(len(decks))], 1+r.Int63n(impl.MaxKinds)
		callFitting(t, chapter7, []fitting{
			{"ValidStops", []any{c, stops}}, {"StoppedAt", []any{c, p, stops}}, {"LeftOver", []any{c, p, stops}}, {"StopSpread", []any{c, p, whole}}, {"StopTime", []any{c, p, whole}},
			{"IsStrong", []any{c, p, stops}}, {"StrongStops", []any{c, p, few}}, {"FillingStops", []any{c, p, q, few}}, {"AccessTime", []any{c, p, q}},
			{"DeckAt", []any{cards, r.Int63n(int64(len(decks)))}}, {"DeckNumber", []any{deck}}, {"ShuffleChain", []any{cards, 1 + r.Int63n(5)}}, {"RisingRuns", []any{deck}},
			{"RiffleChance", []any{deck, r.Int63n(impl.MaxSteps + 1)}}, {"CollectorChance", []any{kinds, r.Int63n(impl.MaxSteps + 1)}}, {"CollectorTime", []any{kinds}},
		})
		call(t, "FirstWeak", reflect.ValueOf(impl.FirstWeak), []reflect.Value{reflect.ValueOf(c), reflect.ValueOf(p), reflect.ValueOf(stops)})
	}
}

func TestCountingArguments(t *testing.T) {
	r := rand.New(rand.NewSource(8))
	for range 150 {
		g, q, weight := randomGraph(r), 1+r.Int63n(impl.MaxColours), 1+r.Int63n(impl.MaxTotal)
		colourings, sets, node := colouringsIn(g, q), apartSets(g), r.Int63n(g.Nodes)
		from, to := sets[r.Intn(len(sets))], sets[r.Intn(len(sets))]
		callFitting(t, chapter8, []fitting{
			{"ValidGraph", []any{g}}, {"SameGraph", []any{g, g}}, {"ReadGraph", []any{graphTextOf(g)}}, {"CountColourings", []any{g, q}}, {"ColourPolynomial", []any{g}},
			{"IsColouring", []any{g, q, make([]int64, g.Nodes)}}, {"FreeColours", []any{g, q, make([]int64, g.Nodes), node}}, {"IsIndependent", []any{g, from}},
			{"IndependentCounts", []any{g}}, {"ChangeSet", []any{g, weight, from, node, r.Int63n(weight + 1)}}, {"ChangeChance", []any{g, weight, from, to}},
			{"SetChance", []any{g, weight, from}}, {"NodeChance", []any{g, weight, node}}, {"MatchingCounts", []any{g}},
		})
		call(t, "GraphText", reflect.ValueOf(impl.GraphText), []reflect.Value{reflect.ValueOf(g)})
		if len(g.Edges) > 0 && len(g.Edges) <= impl.MaxNodes {
			callFitting(t, chapter8, []fitting{{"LineGraph", []any{g}}, {"EdgeRatio", []any{g, q, int64(0)}}})
		}
		if len(colourings) == 0 {
			continue
		}
		one, other := colourings[r.Intn(len(colourings))], colourings[r.Intn(len(colourings))]
		part := slices.Clone(one)
		part[node] = -1
		callFitting(t, chapter8, []fitting{
			{"ColouringsOf", []any{g, q, part}}, {"Recolour", []any{g, q, one, node, int64(0)}}, {"RecolourChance", []any{g, q, one, other}}, {"ColourChances", []any{g, q, part, node}},
			{"CountByChances", []any{g, q}},
		})
		if len(colourings) <= impl.MaxListed {
			callFitting(t, chapter8, []fitting{{"SpreadOfColourings", []any{g, q, one, r.Int63n(impl.MaxSteps + 1)}}, {"CanRecolour", []any{g, q}}})
		}
	}
}

func TestSamplerArguments(t *testing.T) {
	r := rand.New(rand.NewSource(9))
	for range 100 {
		v := someService(t, r)
		c, total, count := v.Chain, 1+r.Int63n(impl.MaxTotal), r.Int63n(impl.MaxWindow+1)
		seed, level, records := someSeed(r), r.Int63n(impl.MaxLevels), fittingRecords(r, v, r.Intn(20))
		deeds, _ := someDeeds(r, v, r.Intn(100))
		lines, _ := someLines(r, v, r.Intn(40))
		d := deed(impl.DdDrop, r.Int63n(1000))
		callFitting(t, chapter9, []fitting{
			{"DrawsOf", []any{seed, total, count}}, {"WindowByDraws", []any{c, drawsIn(seed, c.Total, int(count))}}, {"WindowOf", []any{c, seed, level}}, {"ValidService", []any{v}},
			{"ReadJournal", []any{v, recordLines(records) + "torn"}}, {"DeskAfter", []any{v, records}}, {"ValidDeed", []any{d}}, {"ReadDeed", []any{deedLine(d)}},
			{"PlantAfter", []any{v, deeds}}, {"HandedOut", []any{v, deeds}}, {"FinishDeeds", []any{v, deeds}}, {"RunScript", []any{v, strings.Join(lines, "\n")}},
		})
		call(t, "SampleOf", reflect.ValueOf(impl.SampleOf), []reflect.Value{reflect.ValueOf(c), reflect.ValueOf(seed)})
		call(t, "JournalText", reflect.ValueOf(impl.JournalText), []reflect.Value{reflect.ValueOf(v), reflect.ValueOf(records)})
		call(t, "DeedText", reflect.ValueOf(impl.DeedText), []reflect.Value{reflect.ValueOf(d)})
		call(t, "RefusedDeed", reflect.ValueOf(impl.RefusedDeed), []reflect.Value{reflect.ValueOf(v), reflect.ValueOf(deeds)})
		for _, one := range records {
			callFitting(t, chapter9, []fitting{{"ValidRecord", []any{v, one}}})
		}
	}
}

// TestLongestStops has as many states and times as there can be, and as long
// numerals: the numbers on the way are far longer than those of a result.
func TestLongestStops(t *testing.T) {
	r := rand.New(rand.NewSource(7))
	for range 6 {
		c := randomChainOf(r, impl.MaxStates, 59+r.Int63n(2))
		p, stops := longStart(r, c.States, 300), [][]impl.Fraction{}
		for range impl.MaxTimes {
			row := []impl.Fraction{}
			for range c.States {
				row = append(row, randomStop(r, impl.MaxStopDigits))
			}
			stops = append(stops, row)
		}
		for _, name := range []string{"StoppedAt", "LeftOver", "StopSpread", "StopTime", "IsStrong", "FirstWeak"} {
			call(t, name, reflect.ValueOf(chapter7[name]), []reflect.Value{reflect.ValueOf(c), reflect.ValueOf(p), reflect.ValueOf(stops)})
		}
	}
}

// reversiblePair returns a connected chain with two states, which is reversible.
func reversiblePair(r *rand.Rand) impl.Chain {
	up, down := 1+r.Int63n(9), 1+r.Int63n(9)
	return impl.Chain{States: 2, Total: 9, Weights: [][]int64{{9 - up, up}, {down, 9 - down}}}
}

// TestLongArguments has arguments of a million elements.
func TestLongArguments(t *testing.T) {
	const million = 1000000
	c := readChain(t, exampleText)
	wide := impl.Chain{States: 2, Total: 3, Weights: [][]int64{make([]int64, million), {3, 0}}}
	high := impl.Chain{States: million, Total: 3, Weights: make([][]int64, million)}
	spread := make([]impl.Fraction, million)
	list := make([]int64, million)
	number := impl.Fraction{Num: strings.Repeat("7", million), Den: "1"}
	same(t, "ValidFraction", impl.ValidFraction(number), false)
	_, got := impl.AddFraction(number, number)
	same(t, "AddFraction", got, int64(impl.ErrInvalid))
	for _, long := range []impl.Chain{wide, high} {
		same(t, "ValidChain", impl.ValidChain(long), false)
		same(t, "SameChain", impl.SameChain(long, long), true)
		same(t, "SameChain", impl.SameChain(long, c), false)
		same(t, "ChainText", impl.ChainText(long), "")
		_, got = impl.SkipChain(long, 40)
		same(t, "SkipChain", got, int64(impl.ErrInvalid))
		_, got = impl.BesideChain(c, long)
		same(t, "BesideChain", got, int64(impl.ErrInvalid))
		_, got = impl.StationarySpread(long)
		same(t, "StationarySpread", got, int64(impl.ErrInvalid))
		_, got = impl.HitTimes(long, list)
		same(t, "HitTimes", got, int64(impl.ErrInvalid))
	}
	same(t, "ValidSpread", impl.ValidSpread(spread), false)
	_, got = impl.SpreadAfter(c, spread, 1)
	same(t, "SpreadAfter", got, int64(impl.ErrInvalid))
	_, got = impl.MixSpreads(spread, spread, frac("1"))
	same(t, "MixSpreads", got, int64(impl.ErrInvalid))
	_, got = impl.ExpectedValue(fracs("1"), spread)
	same(t, "ExpectedValue", got, int64(impl.ErrInvalid))
	_, got = impl.RenameStates(c, list)
	same(t, "RenameStates", got, int64(impl.ErrRange))
	_, got = impl.RunByDraws(c, 0, list)
	same(t, "RunByDraws", got, int64(impl.ErrRange))
	_, got = impl.LongSpread(c, spread)
	same(t, "LongSpread", got, int64(impl.ErrInvalid))
	_, got = impl.HitChances(c, list)
	same(t, "HitChances", got, int64(impl.ErrRange))
	_, got = impl.WatchedChain(c, list)
	same(t, "WatchedChain", got, int64(impl.ErrRange))
	_, got = impl.ReadChain(strings.Repeat("chain 1 1\n", million/10))
	same(t, "ReadChain", got, int64(impl.ErrRange))
	_, got = impl.DistanceOf(spread, spread)
	same(t, "DistanceOf", got, int64(impl.ErrInvalid))
	_, got = impl.GlueJoints([][]impl.Fraction{spread}, [][]impl.Fraction{spread})
	same(t, "GlueJoints", got, int64(impl.ErrInvalid))
	_, got = impl.JointCost(jointOf("1"), [][]int64{list})
	same(t, "JointCost", got, int64(impl.ErrRange))
	_, _, got = impl.FindPrices(fracs("1"), fracs("1"), make([][]int64, million))
	same(t, "FindPrices", got, int64(impl.ErrRange))
	_, got = impl.PriceBound(fracs("1"), fracs("1"), [][]int64{{0}}, list, list)
	same(t, "PriceBound", got, int64(impl.ErrRange))
	for _, long := range []impl.Chain{wide, high} {
		m := impl.Coupled(long)
		same(t, "ValidCoupled", impl.ValidCoupled(c, m), false)
		same(t, "ValidCoupled", impl.ValidCoupled(long, m), false)
		same(t, "SameCoupled", impl.SameCoupled(m, m), true)
		_, got = impl.BestCoupled(long)
		same(t, "BestCoupled", got, int64(impl.ErrInvalid))
		_, got = impl.ExpectedMeeting(c, m, 0, 1)
		same(t, "ExpectedMeeting", got, int64(impl.ErrInvalid))
	}
	_, got = impl.RoadBound(c, make([]impl.Road, million), 1)
	same(t, "RoadBound", got, int64(impl.ErrRange))
	_, got = impl.PairFactor(c, [][]int64{list, list}, 0, 1)
	same(t, "PairFactor", got, int64(impl.ErrRange))
	_, got = impl.MixingTime(c, number)
	same(t, "MixingTime", got, int64(impl.ErrInvalid))
	longMaps(t, list)
	longCuts(t, []impl.Chain{wide, high}, list)
	longStops(t, []impl.Chain{wide, high}, list)
	longGraphs(t, list)
	longServices(t, []impl.Chain{wide, high}, list)
}

// longServices has chains, draws, records, deeds and texts of a million elements.
func longServices(t *testing.T, chains []impl.Chain, list []int64) {
	t.Helper()
	v, text := serviceOf(t, fairCoin, 1, impl.MaxSamples, impl.MaxWorkers), strings.Repeat("sync\n", len(list)/5)
	records := slices.Repeat([]impl.Record{record(impl.RcUp, 0, 1)}, len(list)/3)
	met, s, got := impl.WindowByDraws(v.Chain, list)
	code(t, "WindowByDraws", impl.ErrRange, met, s, got)
	same(t, "JournalText", len(impl.JournalText(v, records)), 7*len(records))
	d, got := impl.DeskAfter(v, records)
	code(t, "DeskAfter", impl.ErrState, d, got)
	read, got := impl.ReadJournal(v, text)
	code(t, "ReadJournal", impl.ErrRange, read, got)
	one, got := impl.ReadDeed(text)
	code(t, "ReadDeed", impl.ErrSyntax, one, got)
	answers, got := impl.RunScript(v, text)
	code(t, "RunScript", impl.ErrRange, answers, got)
	deeds := slices.Repeat(deedsOf("out"), len(list)/2)
	deedCodes(t, "many deeds", impl.ErrRange, v, deeds)
	deedCodes(t, "many deeds", impl.ErrInvalid, v, make([]impl.Deed, len(list)/2))
	for _, long := range chains {
		v.Chain = long
		met, s, got = impl.WindowByDraws(long, list)
		code(t, "WindowByDraws", impl.ErrInvalid, met, s, got)
		met, s, got = impl.WindowOf(long, 1, 1)
		code(t, "WindowOf", impl.ErrInvalid, met, s, got)
		s, level, got := impl.SampleOf(long, 1)
		code(t, "SampleOf", impl.ErrInvalid, s, level, got)
		same(t, "ValidService", impl.ValidService(v) || impl.ValidRecord(v, records[0]) || impl.JournalText(v, records) != "", false)
		read, got = impl.ReadJournal(v, text)
		code(t, "ReadJournal", impl.ErrInvalid, read, got)
		d, got = impl.DeskAfter(v, records)
		code(t, "DeskAfter", impl.ErrInvalid, d, got)
		answers, got = impl.RunScript(v, text)
		code(t, "RunScript", impl.ErrInvalid, answers, got)
		deedCodes(t, "a long chain", impl.ErrInvalid, v, deeds)
	}
}

// longGraphs has graphs, lists of colours and sets of a million elements.
func longGraphs(t *testing.T, list []int64) {
	t.Helper()
	g, rising := readGraph(t, exampleGraph), stayingTo(int64(len(list)))
	for _, long := range []impl.Graph{
		{Nodes: 3, Edges: make([][]int64, len(list))}, {Nodes: 3, Edges: [][]int64{rising}}, {Nodes: 3, Edges: slices.Repeat([][]int64{{0, 1}}, len(list)/3)},
		{Nodes: int64(len(list)), Edges: [][]int64{list}},
	} {
		same(t, "ValidGraph", impl.ValidGraph(long), false)
		same(t, "SameGraph", impl.SameGraph(long, long), true)
		same(t, "SameGraph", impl.SameGraph(long, g), false)
		same(t, "GraphText", impl.GraphText(long), "")
		for _, one := range colouringCalls() {
			code(t, one.name, impl.ErrInvalid, one.call(long, 3, list, 0)...)
		}
		for name, results := range setCalls(long, 1, list, 0, 0) {
			code(t, name, impl.ErrInvalid, results...)
		}
		counts, got := impl.MatchingCounts(long)
		code(t, "MatchingCounts", impl.ErrInvalid, counts, got)
	}
	for _, numbers := range [][]int64{list, rising} {
		for _, one := range colouringCalls() {
			if one.hasList {
				code(t, one.name, impl.ErrRange, one.call(g, 3, numbers, 0)...)
			}
		}
		for name, results := range setCalls(g, 1, numbers, 0, 0) {
			code(t, name, impl.ErrRange, results...)
		}
	}
	_, got := impl.ReadGraph(strings.Repeat("edge 0 1\n", len(list)/9))
	same(t, "ReadGraph", got, int64(impl.ErrRange))
}

// longStops has chains, spreads, stops and decks of a million elements.
func longStops(t *testing.T, chains []impl.Chain, list []int64) {
	t.Helper()
	c, p, ones := readChain(t, exampleStops), fracs("1", "0"), slices.Repeat(fracs("1"), len(list))
	for _, long := range chains {
		stopCodes(t, "a long chain", impl.ErrInvalid, long, p, nil)
		stops, got := impl.StrongStops(long, p, 1)
		code(t, "StrongStops", impl.ErrInvalid, stops, got)
		stops, got = impl.FillingStops(long, p, p, 1)
		code(t, "FillingStops", impl.ErrInvalid, stops, got)
	}
	for _, stops := range [][][]impl.Fraction{make([][]impl.Fraction, len(list)), {ones}, slices.Repeat([][]impl.Fraction{p}, len(list)/3)} {
		same(t, "ValidStops", impl.ValidStops(c, stops), false)
		stopCodes(t, "long stops", impl.ErrInvalid, c, p, stops)
	}
	stopCodes(t, "a long spread", impl.ErrInvalid, c, ones, nil)
	time, got := impl.AccessTime(c, ones, ones)
	code(t, "AccessTime", impl.ErrInvalid, time, got)
	for _, deck := range [][]int64{list, stayingTo(int64(len(list)))} {
		number, got := impl.DeckNumber(deck)
		code(t, "DeckNumber", impl.ErrRange, number, got)
		runs, got := impl.RisingRuns(deck)
		code(t, "RisingRuns", impl.ErrRange, runs, got)
		x, got := impl.RiffleChance(deck, 1)
		code(t, "RiffleChance", impl.ErrRange, x, got)
	}
}

// longCuts has chains, sets, values and paths of a million elements.
func longCuts(t *testing.T, chains []impl.Chain, list []int64) {
	t.Helper()
	c, ones := readChain(t, exampleCuts), slices.Repeat(fracs("1"), len(list))
	rising := stayingTo(int64(len(list)))
	for _, long := range chains {
		_, got := impl.FlowBetween(long, list, list)
		same(t, "FlowBetween", got, int64(impl.ErrInvalid))
		_, _, got = impl.Conductance(long)
		same(t, "Conductance", got, int64(impl.ErrInvalid))
		_, got = impl.FormOf(long, ones)
		same(t, "FormOf", got, int64(impl.ErrInvalid))
		_, got = impl.StepPaths(c, long)
		same(t, "StepPaths", got, int64(impl.ErrInvalid))
		_, got = impl.CommuteTime(long, 0, 1)
		same(t, "CommuteTime", got, int64(impl.ErrInvalid))
	}
	for _, set := range [][]int64{list, rising} {
		_, got := impl.FlowBetween(c, nil, set)
		same(t, "FlowBetween", got, int64(impl.ErrRange))
		_, got = impl.CutRatio(c, set)
		same(t, "CutRatio", got, int64(impl.ErrRange))
		_, got = impl.IsPath(c, set)
		same(t, "IsPath", got, int64(impl.ErrRange))
	}
	_, got := impl.GapQuotient(c, ones)
	same(t, "GapQuotient", got, int64(impl.ErrRange))
	for _, paths := range [][][]int64{{list}, {rising}, make([][]int64, len(list)), slices.Repeat([][]int64{rising[:6]}, 6)} {
		are, got := impl.ArePaths(c, paths)
		same(t, "ArePaths", are || got != impl.OK, false)
		_, _, got = impl.CongestionOf(c, paths)
		same(t, "CongestionOf", got, int64(impl.ErrProof))
		_, got = impl.ComparisonOf(c, c, paths)
		same(t, "ComparisonOf", got, int64(impl.ErrProof))
	}
}

// longMaps has maps, picks and orders of a million elements.
func longMaps(t *testing.T, list []int64) {
	t.Helper()
	m := readMaps(t, exampleMaps)
	wide := impl.Maps{States: 2, Total: 1, List: []impl.Map{{Weight: 1, To: list}}}
	high := impl.Maps{States: 2, Total: 60, List: slices.Repeat([]impl.Map{m.List[0]}, len(list)/3)}
	below := make([][]bool, len(list))
	for _, long := range []impl.Maps{wide, high} {
		same(t, "ValidMaps", impl.ValidMaps(long), false)
		same(t, "SameMaps", impl.SameMaps(long, long), true)
		same(t, "SameMaps", impl.SameMaps(long, m), false)
		same(t, "MapsText", impl.MapsText(long), "")
		_, got := impl.TidyMaps(long)
		same(t, "TidyMaps", got, int64(impl.ErrInvalid))
		_, got = impl.ThenMaps(m, long)
		same(t, "ThenMaps", got, int64(impl.ErrInvalid))
		_, got = impl.PastChances(long, 1)
		same(t, "PastChances", got, int64(impl.ErrInvalid))
		_, got = impl.IsMonotone(long, below)
		same(t, "IsMonotone", got, int64(impl.ErrInvalid))
		_, _, got = impl.PastRun(long, list)
		same(t, "PastRun", got, int64(impl.ErrInvalid))
	}
	_, got := impl.ApplyPicks(m, list)
	same(t, "ApplyPicks", got, int64(impl.ErrRange))
	_, _, got = impl.SandwichRun(m, below, list)
	same(t, "SandwichRun", got, int64(impl.ErrInvalid))
	same(t, "ValidOrder", impl.ValidOrder(int64(len(below)), below), false)
	_, _, got = impl.EndsOf([][]bool{make([]bool, len(list))})
	same(t, "EndsOf", got, int64(impl.ErrInvalid))
}
