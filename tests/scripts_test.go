package tests

import (
	"fmt"
	"math/rand"
	"strings"
	"sync"
	"testing"

	"loop.example/g01118/impl"
)

// The tests of this file are about promise 23: scripts tell what deeds do.

// allDeedLines returns the deeds of all texts that are those of valid ones.
var allDeedLines = sync.OnceValue(func() map[string]impl.Deed {
	lines := map[string]impl.Deed{}
	for kind := int64(1); kind <= 10; kind++ {
		for a := range int64(1000) {
			if !isAlone(kind) || a == 0 {
				lines[deedLine(deed(kind, a))] = deed(kind, a)
			}
		}
	}
	return lines
})

// answerIn returns the answer of a plant to a line, and does what it says.
func (k *knownPlant) answerIn(line string) string {
	if d, isDeed := allDeedLines()[line]; isDeed {
		if got := k.do(d); got != impl.OK {
			return "error " + impl.CodeName(got)
		}
		return "ok"
	}
	numbers := func(list []int64) string {
		if len(list) == 0 {
			return "-"
		}
		return numberTexts([][]int64{list})
	}
	switch line {
	case "handed":
		return numbers(k.out)
	case "levels":
		return numbers(k.desk().Levels)
	case "journal":
		return fmt.Sprint(len(k.lines), k.synced)
	default:
		return "what"
	}
}

// someLines returns lines of all kinds, and what is answered to them.
func someLines(r *rand.Rand, v impl.Service, count int) (lines, answers []string) {
	k, isCalm := newKnown(v), r.Intn(2) == 0
	for range count {
		line := deedLine(k.someDeed(r, isCalm))
		switch r.Intn(12) {
		case 0:
			line = "handed"
		case 1:
			line = "levels"
		case 2:
			line = "journal"
		case 3:
			line = changedText(r, []string{"handed", "levels", "journal", line}[r.Intn(4)], "handlevsjour 0129-+")
		case 4:
			line = ""
		}
		lines, answers = append(lines, line), append(answers, k.answerIn(line))
	}
	return lines, answers
}

// TestRunScript has scripts of all lengths, with and without a newline at the end.
func TestRunScript(t *testing.T) {
	r := rand.New(rand.NewSource(651))
	seen := map[string]int{}
	for range 150 {
		v := someService(t, r)
		count := []int{r.Intn(20), r.Intn(impl.MaxScriptLines), impl.MaxScriptLines}[r.Intn(3)]
		lines, answers := someLines(r, v, count)
		want := ""
		for i, answer := range answers {
			want += answer + "\n"
			if strings.ContainsAny(answer, "0-") {
				answer = lines[i] + " with numbers"
			}
			seen[answer]++
		}
		text := strings.Join(lines, "\n")
		if count > 0 {
			whole, got := impl.RunScript(v, text+"\n")
			same(t, text, whole, want)
			same(t, "code", got, int64(impl.OK))
		}
		if count > 0 && lines[count-1] != "" {
			open, got := impl.RunScript(v, text)
			same(t, text, open, want)
			same(t, "code", got, int64(impl.OK))
		}
	}
	sawAll(t, seen, "ok", "error range", "error state", "error limit", "what", "handed with numbers", "levels with numbers", "journal with numbers")
}

// TestScriptsAreDeeds compares a script with the functions that are given deeds.
func TestScriptsAreDeeds(t *testing.T) {
	r := rand.New(rand.NewSource(652))
	for range 60 {
		v := someService(t, r)
		deeds, _ := someDeeds(r, v, r.Intn(impl.MaxScriptLines-2))
		lines := []string{}
		for _, d := range deeds {
			lines = append(lines, deedLine(d))
		}
		text, got := impl.RunScript(v, strings.Join(append(lines, "handed", "levels", "journal"), "\n"))
		same(t, "code", got, int64(impl.OK))
		answers := strings.Split(strings.TrimSuffix(text, "\n"), "\n")
		same(t, "answers", len(answers), len(deeds)+3)
		plant, done, _ := impl.PlantAfter(v, deeds)
		same(t, "done", int64(strings.Count(text, "ok\n")), done)
		handed := numberTexts([][]int64{plant.Out})
		if len(plant.Out) == 0 {
			handed = "-"
		}
		last := []string{handed, numberTexts([][]int64{plant.Desk.Levels}), fmt.Sprint(len(plant.Records), plant.Synced)}
		same(t, "in the end", answers[len(deeds):], last)
		at, why, got := impl.RefusedDeed(v, deeds)
		if got == impl.OK {
			same(t, "refused", answers[at], "error "+impl.CodeName(why))
			same(t, "all before", strings.Count(strings.Join(answers[:at], " "), "ok"), int(at))
		}
	}
}

func TestRunScriptEdges(t *testing.T) {
	coin, never := serviceOf(t, fairCoin, 1, 2, 1), serviceOf(t, neverMeets, 0, 1, 1)
	round := "give 0\ndeliver 0\nwork 0\ndeliver 0\n"
	for _, one := range []struct {
		v          impl.Service
		text, want string
	}{
		{coin, "", ""}, {coin, "\n", "what\n"}, {coin, "\n\n", "what\nwhat\n"}, {coin, "\n\n\n", "what\nwhat\nwhat\n"}, {coin, " ", "what\n"}, {coin, " \n", "what\n"}, {coin, "sync", "ok\n"},
		{coin, "sync\n", "ok\n"}, {coin, "sync\n\n", "ok\nwhat\n"}, {coin, "\nsync", "what\nok\n"}, {coin, "\n\nsync\n\n", "what\nwhat\nok\nwhat\n"}, {coin, "sync\r\n", "what\n"},
		{coin, "handed", "-\n"}, {coin, "levels", "0 0\n"}, {never, "levels", "0\n"}, {coin, "journal", "0 0\n"}, {coin, "handed 0", "what\n"}, {coin, "levels 1", "what\n"}, {coin, "journal 0 0", "what\n"},
		{coin, " handed", "what\n"}, {coin, "handed ", "what\n"}, {coin, "Handed", "what\n"}, {coin, "-", "what\n"}, {coin, "ok", "what\n"}, {coin, "what", "what\n"}, {coin, "up 0 1", "what\n"},
		{coin, "out 0", "what\n"}, {coin, "give", "what\n"}, {coin, "give 1000", "what\n"}, {coin, "give 999", "error range\n"}, {coin, "give -1", "what\n"}, {coin, "give 00", "what\n"},
		{coin, "sync 0", "what\n"}, {coin, "out", "error state\n"}, {coin, "tear", "error state\n"}, {coin, "crash", "ok\n"}, {coin, "quit 0", "ok\n"}, {coin, "quit 1", "error range\n"},
		{coin, strings.Repeat("give 0\n", impl.MaxWire+1), strings.Repeat("ok\n", impl.MaxWire) + "error limit\n"},
		{coin, round + "journal\nlevels\nhanded\nout\njournal\nhanded\n", "ok\nok\nok\nok\n1 0\n0 0\n-\nok\n2 2\n0\n"},
		{coin, round + round + "out\nout\nout\nhanded\njournal", strings.Repeat("ok\n", 10) + "error state\n0 0\n4 4\n"},
		{never, round + "levels\njournal\nsync\n" + round + "levels\njournal\ncrash\nlevels\njournal", "ok\nok\nok\nok\n1\n1 0\nok\nok\nok\nok\nok\n2\n2 1\nok\n1\n1 1\n"},
		{never, strings.Repeat(round, 7) + "levels\nhanded\nout\nhanded\nout\njournal\ngive 0", strings.Repeat("ok\n", 28) + "7\n-\nok\n-2\nerror state\n8 8\nerror state\n"},
	} {
		text, got := impl.RunScript(one.v, one.text)
		same(t, fmt.Sprintf("%q", one.text), text, one.want)
		same(t, fmt.Sprintf("%q", one.text), got, int64(impl.OK))
	}
}

// TestLongScripts has as many lines and bytes as can be, and more.
func TestLongScripts(t *testing.T) {
	v, most := serviceOf(t, fairCoin, 1, 1, 2), impl.MaxScriptText
	whats := func(count int) string { return strings.Repeat("what\n", count) }
	for _, one := range []struct {
		text, want string
		code       int64
	}{
		{strings.Repeat("\n", impl.MaxScriptLines), whats(impl.MaxScriptLines), impl.OK}, {strings.Repeat("\n", impl.MaxScriptLines+1), "", impl.ErrRange},
		{strings.Repeat("\n", impl.MaxScriptLines) + "x", "", impl.ErrRange}, {strings.Repeat("\n", impl.MaxScriptLines-1) + "x", whats(impl.MaxScriptLines), impl.OK},
		{strings.Repeat("sync\n", impl.MaxScriptLines), strings.Repeat("ok\n", impl.MaxScriptLines), impl.OK}, {strings.Repeat("sync\n", impl.MaxScriptLines+1), "", impl.ErrRange},
		{strings.TrimSuffix(strings.Repeat("sync\n", impl.MaxScriptLines), "\n"), strings.Repeat("ok\n", impl.MaxScriptLines), impl.OK},
		{strings.Repeat("x", most), whats(1), impl.OK}, {strings.Repeat("x", most+1), "", impl.ErrRange}, {strings.Repeat("x", most-1) + "\n", whats(1), impl.OK},
		{strings.Repeat("x", most) + "\n", "", impl.ErrRange}, {strings.Repeat("x", most-5) + "\nsync", whats(1) + "ok\n", impl.OK}, {strings.Repeat("x", most-4) + "\nsync", "", impl.ErrRange},
		{strings.Repeat("\n", most), "", impl.ErrRange}, {strings.Repeat("\n", most+1), "", impl.ErrRange},
	} {
		text, got := impl.RunScript(v, one.text)
		same(t, "answers", text, one.want)
		same(t, "code", got, one.code)
	}
	for name, bad := range invalidServices(t) {
		for _, text := range []string{"", "sync", "\n", strings.Repeat("x", most+1), strings.Repeat("\n", impl.MaxScriptLines+1)} {
			answer, got := impl.RunScript(bad, text)
			code(t, name, impl.ErrInvalid, answer, got)
		}
	}
}

// TestExampleOfChapter9 is the example of the document.
func TestExampleOfChapter9(t *testing.T) {
	c := readChain(t, "chain 2 2\nfrom 1 1\nfrom 1 1\n")
	draws, got := impl.DrawsOf(1, 10, 3)
	same(t, "DrawsOf", draws, []int64{8, 8, 3})
	same(t, "code", got, int64(impl.OK))
	met, s, got := impl.WindowByDraws(c, []int64{0})
	same(t, "the draw 0", []any{met, s, got}, []any{true, int64(0), int64(impl.OK)})
	met, s, got = impl.WindowByDraws(c, []int64{1})
	same(t, "the draw 1", []any{met, s, got}, []any{true, int64(1), int64(impl.OK)})
	s, level, got := impl.SampleOf(c, 1)
	same(t, "SampleOf", []int64{s, level, got}, []int64{0, 0, impl.OK})
}
