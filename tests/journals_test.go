package tests

import (
	"fmt"
	"math"
	"math/rand"
	"slices"
	"strings"
	"testing"

	"loop.example/g01118/impl"
)

// The tests of this file are about promise 21: services, records and journals,
// also torn ones; and about desks that learn them.

func TestValidService(t *testing.T) {
	for _, c := range chainsThatMeet(t) {
		for samples := int64(1); samples <= impl.MaxSamples; samples++ {
			for workers := int64(1); workers <= impl.MaxWorkers; workers++ {
				for _, base := range []int64{0, 1, impl.MaxSeed / 2, impl.MaxSeed - impl.MaxSamples} {
					v := impl.Service{Chain: c, Base: base, Samples: samples, Workers: workers}
					same(t, "valid", impl.ValidService(v), true)
				}
			}
		}
	}
	for name, v := range invalidServices(t) {
		same(t, name, impl.ValidService(v), false)
	}
}

// someServices returns services of all sizes.
func someServices(t *testing.T, r *rand.Rand, count int) []impl.Service {
	t.Helper()
	list := []impl.Service{
		serviceOf(t, fairCoin, 1, 1, 2), serviceOf(t, oneState, 0, impl.MaxSamples, impl.MaxWorkers),
		serviceOf(t, neverMeets, impl.MaxSeed-impl.MaxSamples, impl.MaxSamples, 1), serviceOf(t, seldomMeets, 0, 1, impl.MaxWorkers),
	}
	for len(list) < count {
		list = append(list, someService(t, r))
	}
	return list
}

func TestValidRecord(t *testing.T) {
	r := rand.New(rand.NewSource(611))
	for _, v := range someServices(t, r, 30) {
		valid := validRecords(v)
		for kind := int64(-1); kind <= 5; kind++ {
			for sample := int64(-2); sample <= 10; sample++ {
				for value := int64(-2); value <= 10; value++ {
					one := record(kind, sample, value)
					same(t, "record", impl.ValidRecord(v, one), slices.Contains(valid, one))
				}
			}
		}
		for name, one := range invalidRecords(v) {
			same(t, name, impl.ValidRecord(v, one), false)
		}
	}
	for name, v := range invalidServices(t) {
		for _, one := range []impl.Record{record(impl.RcUp, 0, 1), record(impl.RcGot, 0, 0), record(impl.RcOut, 0, 0), {}} {
			same(t, name, impl.ValidRecord(v, one), false)
		}
	}
}

// TestRecordEnds has the least and the greatest value of each kind.
func TestRecordEnds(t *testing.T) {
	v := serviceOf(t, alongFive, 0, impl.MaxSamples, 1)
	for _, one := range []struct {
		kind, sample, value int64
		want                bool
	}{
		{impl.RcUp, 0, 1, true}, {impl.RcUp, 7, impl.MaxLevels, true}, {impl.RcUp, 0, 0, false}, {impl.RcUp, 0, impl.MaxLevels + 1, false},
		{impl.RcGot, 0, 0, true}, {impl.RcGot, 7, 4, true}, {impl.RcGot, 0, -1, false}, {impl.RcGot, 0, -2, false}, {impl.RcGot, 0, 5, false},
		{impl.RcOut, 0, 0, true}, {impl.RcOut, 7, 0, true}, {impl.RcOut, 8, 0, false}, {impl.RcOut, -1, 0, false}, {impl.RcOut, 7, 1, false}, {impl.RcOut, 7, -1, false},
		{0, 0, 0, false}, {4, 0, 0, false},
	} {
		same(t, fmt.Sprint(one), impl.ValidRecord(v, record(one.kind, one.sample, one.value)), one.want)
	}
}

// someRecords returns so many valid records, which need not fit.
func someRecords(r *rand.Rand, v impl.Service, count int) []impl.Record {
	valid, list := validRecords(v), []impl.Record{}
	for range count {
		list = append(list, valid[r.Intn(len(valid))])
	}
	return list
}

func TestJournalText(t *testing.T) {
	r := rand.New(rand.NewSource(612))
	for _, v := range someServices(t, r, 40) {
		same(t, "no records", impl.JournalText(v, nil)+impl.JournalText(v, []impl.Record{}), "")
		for _, one := range validRecords(v) {
			same(t, "one", impl.JournalText(v, []impl.Record{one}), recordLine(one))
		}
		for range 5 {
			records := someRecords(r, v, r.Intn(50))
			text := recordLines(records)
			same(t, "text", impl.JournalText(v, records), text)
			again, got := impl.ReadJournal(v, text)
			same(t, "records", again, records)
			same(t, "code", got, int64(impl.OK))
		}
		for name, bad := range invalidRecords(v) {
			for _, records := range [][]impl.Record{{bad}, append(someRecords(r, v, 3), bad), append([]impl.Record{bad}, someRecords(r, v, 3)...)} {
				same(t, name, impl.JournalText(v, records), "")
			}
		}
	}
	for name, v := range invalidServices(t) {
		same(t, name, impl.JournalText(v, recordsOf("up 0 1, got 0 0, out 0")), "")
		same(t, name, impl.JournalText(v, nil), "")
	}
}

func TestReadJournalSyntax(t *testing.T) {
	v := serviceOf(t, alongFive, 0, impl.MaxSamples, 1)
	for _, line := range []string{
		"", " ", "up", "up ", "up 0", "up 0 ", "up 0 0", "up 0 8", "up 8 1", "up 0 -1", "up -1 1", "up 0 +1", "up +0 1", "up 0 01", "up 00 1", "up 0 1 ", " up 0 1",
		"up  0 1", "up 0  1", "up\t0 1", "up 0 1 0", "up 0 1\r", "Up 0 1", "UP 0 1", "ups 0 1", "u 0 1", "up 0 1.0", "up 0x0 1", "up 0 1_0", "up 0,1", "up0 1",
		"got 0 5", "got 0 -1", "got 0 -2", "got 0", "got 0 ", "got  0 0", "got 0 00", "got 0 +0", "got 8 0", "got 0 0 0", "got", "Got 0 0", "go 0 0",
		"out", "out ", "out 8", "out -1", "out +0", "out 00", "out 01", "out 0 ", "out 0 0", "out  0", " out 0", "Out 0", "outs 0", "ou 0", "out 0\x00",
		"give 0", "sync", "out\n", "0 0", "1 0 1", "up 99999999999999999999 1", "up 0 99999999999999999999", "up 18446744073709551616 1", "up 0 18446744073709551617", "\x00",
	} {
		for _, text := range []string{line + "\n", "up 0 1\n" + line + "\n", line + "\nup 0 1\n", line + "\nup 0 1", line + "\n\n", "out 0\n" + line + "\nout"} {
			records, got := impl.ReadJournal(v, text)
			code(t, fmt.Sprintf("%q", text), impl.ErrSyntax, records, got)
		}
		// What is torn may be anything.
		if !strings.Contains(line, "\n") {
			for _, before := range []string{"", "up 0 1\n", "got 3 4\nout 7\n"} {
				records, got := impl.ReadJournal(v, before+line)
				same(t, line, recordLines(records), before)
				same(t, line, got, int64(impl.OK))
			}
		}
	}
}

// TestTornJournals cuts texts off at each byte: what is left of the last line is
// left out.
func TestTornJournals(t *testing.T) {
	r := rand.New(rand.NewSource(613))
	for _, v := range someServices(t, r, 60) {
		records := someRecords(r, v, 8)
		text, whole := recordLines(records), 0
		for at := range len(text) + 1 {
			if at > 0 && text[at-1] == '\n' {
				whole++
			}
			again, got := impl.ReadJournal(v, text[:at])
			same(t, text[:at], again, records[:whole])
			same(t, "code", got, int64(impl.OK))
		}
	}
}

// TestChangedJournals changes bytes of a text: what is read is just what the text
// is, up to the last newline.
func TestChangedJournals(t *testing.T) {
	r := rand.New(rand.NewSource(614))
	kinds := map[int64]int{}
	for range 4000 {
		v := someService(t, r)
		text := changedText(r, recordLines(someRecords(r, v, 1+r.Intn(4))), "upgotu 0123456789-+\n")
		there := text[:strings.LastIndex(text, "\n")+1]
		records, got := impl.ReadJournal(v, text)
		kinds[got]++
		if got == impl.OK {
			same(t, text, recordLines(records), there)
			continue
		}
		code(t, text, impl.ErrSyntax, records, got)
		isLine := func(line string) bool {
			return slices.ContainsFunc(validRecords(v), func(one impl.Record) bool { return recordLine(one) == line })
		}
		all := true
		for _, line := range strings.SplitAfter(there, "\n") {
			all = all && (line == "" || isLine(line))
		}
		same(t, text, all, false)
	}
	if kinds[impl.OK] < 500 || kinds[impl.ErrSyntax] < 500 {
		t.Error("too few of one kind", kinds)
	}
}

// TestLongJournals has just as many bytes as can be, and more.
func TestLongJournals(t *testing.T) {
	v := serviceOf(t, alongFive, 0, impl.MaxSamples, 1)
	line, most := "up 0 1\n", impl.MaxJournal
	text := strings.Repeat("out 0\n", 2) + strings.Repeat(line, (most-12)/len(line))
	for _, one := range []struct {
		text  string
		count int
		code  int64
	}{
		{text, 2 + (most-12)/7, impl.OK}, {text + strings.Repeat("u", most-len(text)), 2 + (most-12)/7, impl.OK},
		{text + strings.Repeat("u", most-len(text)+1), 0, impl.ErrRange}, {strings.Repeat(" ", most), 0, impl.OK}, {strings.Repeat(" ", most+1), 0, impl.ErrRange},
		{strings.Repeat("\n", most), 0, impl.ErrSyntax}, {strings.Repeat("\n", most+1), 0, impl.ErrRange}, {strings.Repeat("out 0\n", (most-2)/6) + "\n\n", 0, impl.ErrSyntax},
		{text + line, 0, impl.ErrRange}, {strings.Repeat("x\n", most), 0, impl.ErrRange}, {"", 0, impl.OK}, {"out 0", 0, impl.OK},
	} {
		records, got := impl.ReadJournal(v, one.text)
		code(t, "a long text", one.code, records, got)
		same(t, "records", len(records), one.count)
	}
	for name, bad := range invalidServices(t) {
		for _, text := range []string{"", "up 0 1\n", "\n", "x", strings.Repeat(" ", most+1)} {
			records, got := impl.ReadJournal(bad, text)
			code(t, name, impl.ErrInvalid, records, got)
		}
	}
}

// fittingRecords returns records that fit, one after the other.
func fittingRecords(r *rand.Rand, v impl.Service, count int) []impl.Record {
	list, lines := []impl.Record{}, []string{}
	for range count {
		for range 40 {
			one := someRecords(r, v, 1)[0]
			if one.Kind == impl.RcGot && r.Intn(4) > 0 {
				continue
			}
			if _, isFit := knownDesk(v.Samples, append(lines, recordLine(one))); isFit {
				list, lines = append(list, one), append(lines, recordLine(one))
				break
			}
		}
	}
	return list
}

// TestDeskAfter has records that fit, and one more behind them.
func TestDeskAfter(t *testing.T) {
	r := rand.New(rand.NewSource(615))
	kinds := map[string]int{}
	for _, v := range someServices(t, r, 150) {
		records := fittingRecords(r, v, r.Intn(70))
		lines := strings.SplitAfter(recordLines(records), "\n")
		want, _ := knownDesk(v.Samples, lines[:len(lines)-1])
		d, got := impl.DeskAfter(v, records)
		same(t, "desk", fmt.Sprint(d), fmt.Sprint(want))
		same(t, "code", got, int64(impl.OK))
		for _, one := range validRecords(v) {
			more := append(slices.Clone(records), one)
			want, isFit := knownDesk(v.Samples, append(slices.Clone(lines[:len(lines)-1]), recordLine(one)))
			d, got = impl.DeskAfter(v, more)
			kinds[fmt.Sprint(one.Kind, isFit)]++
			if !isFit {
				code(t, "one more", impl.ErrState, d, got)
				d, got = impl.DeskAfter(v, append(more, one))
				code(t, "two more", impl.ErrState, d, got)
				continue
			}
			same(t, "one more", fmt.Sprint(d), fmt.Sprint(want))
			same(t, "code", got, int64(impl.OK))
		}
		if slices.Contains(want.Results, -2) {
			kinds["in vain"]++
		}
		if want.Outs == v.Samples {
			kinds["all out"]++
		}
	}
	sawAll(t, kinds, "1 true", "1 false", "2 true", "2 false", "3 true", "3 false", "in vain", "all out")
}

func TestDeskAfterEdges(t *testing.T) {
	v := serviceOf(t, alongFive, 0, 2, 1)
	upTo := func(sample, level int64) string {
		text := []string{}
		for value := int64(1); value <= level; value++ {
			text = append(text, fmt.Sprint("up ", sample, " ", value))
		}
		return strings.Join(text, ", ")
	}
	for _, one := range []struct{ text, want string }{
		{"", "{[0 0] [-1 -1] 0}"}, {"up 0 1", "{[1 0] [-1 -1] 0}"}, {"up 1 1, up 1 2", "{[0 2] [-1 -1] 0}"}, {"got 1 4", "{[0 0] [-1 4] 0}"}, {"got 0 0", "{[0 0] [0 -1] 0}"},
		{"up 0 1, got 0 3", "{[1 0] [3 -1] 0}"}, {"got 0 3, out 0", "{[0 0] [3 -1] 1}"}, {"got 1 2, got 0 3, out 0, out 1", "{[0 0] [3 2] 2}"},
		{upTo(1, 6), "{[0 6] [-1 -1] 0}"}, {upTo(1, 7), "{[0 7] [-1 -2] 0}"}, {upTo(1, 6) + ", got 1 4", "{[0 6] [-1 4] 0}"}, {upTo(0, 7) + ", out 0", "{[7 0] [-2 -1] 1}"},
		{upTo(0, 7) + ", out 0, " + upTo(1, 7) + ", out 1", "{[7 7] [-2 -2] 2}"},
		{"up 0 2", "state"}, {"up 0 1, up 0 1", "state"}, {"up 0 1, up 0 3", "state"}, {"up 0 7", "state"}, {"up 0 1, up 1 2", "state"}, {"got 0 3, up 0 1", "state"},
		{"got 0 3, got 0 3", "state"}, {"got 0 3, got 0 2", "state"}, {upTo(1, 7) + ", got 1 4", "state"}, {upTo(1, 7) + ", up 1 7", "state"}, {upTo(1, 6) + ", got 1 4, up 1 7", "state"},
		{"out 0", "state"}, {"up 0 1, out 0", "state"}, {"got 1 2, out 1", "state"}, {"got 0 2, got 1 2, out 1", "state"}, {"got 0 2, out 0, out 0", "state"}, {"got 0 2, out 0, out 1", "state"},
		{"got 0 2, got 1 2, out 0, out 1, out 1", "state"}, {"got 0 2, got 1 2, out 0, out 1, out 0", "state"}, {"got 0 2, out 0, got 0 2", "state"}, {"got 0 2, out 0, up 0 1", "state"},
	} {
		d, got := impl.DeskAfter(v, recordsOf(one.text))
		if one.want == "state" {
			code(t, one.text, impl.ErrState, d, got)
			continue
		}
		same(t, one.text, fmt.Sprint(d), one.want)
		same(t, one.text, got, int64(impl.OK))
	}
}

// TestDeskErrors has records that are not valid behind, between and before others
// that do not fit.
func TestDeskErrors(t *testing.T) {
	v := serviceOf(t, alongFive, 0, 2, 1)
	for name, bad := range invalidRecords(v) {
		for _, text := range []string{"", "up 0 1", "up 0 2", "out 1, out 0"} {
			for _, records := range [][]impl.Record{append(recordsOf(text), bad), append([]impl.Record{bad}, recordsOf(text)...)} {
				d, got := impl.DeskAfter(v, records)
				code(t, name, impl.ErrInvalid, d, got)
			}
		}
	}
	for name, bad := range invalidServices(t) {
		for _, text := range []string{"", "up 0 1", "up 0 2", "out 0", "up 99 99"} {
			d, got := impl.DeskAfter(bad, recordsOf(text))
			code(t, name, impl.ErrInvalid, d, got)
		}
	}
	d, got := impl.DeskAfter(v, slices.Repeat([]impl.Record{record(impl.RcUp, 0, 1)}, 100000))
	code(t, "many", impl.ErrState, d, got)
	d, got = impl.DeskAfter(v, []impl.Record{record(impl.RcUp, 0, math.MaxInt64)})
	code(t, "far", impl.ErrInvalid, d, got)
}
