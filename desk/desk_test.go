package desk

import (
	"math/rand"
	"strconv"
	"strings"
	"testing"

	"driftnet/api"
	"driftnet/labels"
	"driftnet/quote"
	"driftnet/sample"
)

// run executes lines and returns the output, with "; " for each newline but the last.
func run(t *testing.T, lines ...string) string {
	t.Helper()
	out, e := Run(strings.Join(lines, "\n"))
	if e != api.OK || out != "" && !strings.HasSuffix(out, "\n") {
		t.Fatalf("%q: %q, %d", lines, out, e)
	}
	return strings.ReplaceAll(strings.TrimSuffix(out, "\n"), "\n", "; ")
}

// example is the script of the document, with its output.
func example() (lines, output []string) {
	for _, pair := range [][2]string{
		{`push 1000 {a="x"} |= "ms=5"`, "ok"},
		{`push 2000 {a="x"} |= "ms=7 lvl=err"`, "ok"},
		{`push 1500 {a="x"} |= "late"`, "error 140"},
		{`push 2000 {a="y"} |= "{\"ms\":9}"`, "ok"},
		{"count", "2 streams 3 entries"},
		{`ask 0 3000 1 2 {a=~".+"}`, `2000 {a="x"} "ms=7 lvl=err"; 2000 {a="y"} "{\"ms\":9}"`},
		{`ask 2000 2000 1 0 sum(count_over_time({a=~".+"}[2s]))`, "{} 2000=3"},
		{`ask 1000 2000 1000 0 avg_over_time({a="x"} | logfmt | unwrap ms[2s])`, `{a="x"} 1000=5 2000=5; {a="x", lvl="err"} 2000=7`},
		{"ask 0 0 1 0 1 / 3 +", "error 210 at 7"},
		{"judge", "fine"},
	} {
		lines, output = append(lines, pair[0]), append(output, pair[1])
	}
	return lines, output
}

// TestExample covers P32.1 by the example.
func TestExample(t *testing.T) {
	lines, output := example()
	for i := range lines {
		if got := run(t, lines[:i+1]...); got != strings.Join(output[:i+1], "; ") {
			t.Errorf("%s: %s", lines[i], got)
		}
	}
	if got := run(t); got != "" {
		t.Error(got)
	}
}

// TestLines covers P32.1: the output of each line, behind the pushes of the example.
func TestLines(t *testing.T) {
	lines, _ := example()
	const before = "ok; ok; error 140; ok; "
	for line, want := range map[string]string{
		`push -5 {b="1", a="2"} |= ""`: "ok", `push 5 {a=""} |= "x"`: "ok", `push 5 {b="1",a=""}|="x"`: "ok", `push 5 {a="x"} |= "x"`: "error 140", `push 5 {a="` + strings.Repeat("v", 256) + `"} |= "x"`: "ok", "push 9007199254740991 {a=\"x\"} |= `x`": "ok", "push -9007199254740991 {a=\"z\"} |= `x`": "ok",
		"count": "2 streams 3 entries", "judge": "fine",
		`ask 0 0 1 0 {a="x"}`: "nothing", `ask 0 9999 1 0 {a="x"}`: "nothing", "ask 0 0 1 0 1 / 0": "nothing", "ask 0 0 1 0 1 / 3": "{} 0=1/3", "ask -1 1 2 0 -7": "{} -1=-7 1=-7", "ask 1 0 1 0 1": "error 2", "ask 0 0 0 0 ;": "error 2", "ask 0 0 1 0 ": "error 210", "ask 0 0 1 0  ;": "error 200 at 1", "ask 0 0 1 0 ;": "error 200", "ask 0 5000 1 0 1": "error 290", "ask 0 0 1 0 1 < 2": "error 230", "ask 0 0 1 0 topk(0, 1)": "error 210", "ask 0 9999 1 9 {a=\"x\"} |= \"lvl\"": `2000 {a="x"} "ms=7 lvl=err"`,
		`touch 0 9999 1 9 {a=~".*"}`: "3", `touch 2000 2000 1 0 rate({a=~".*"}[2s]) + rate({a="x"}[1s])`: "4", "touch 0 0 1 0 1": "0", "touch 0 0 1 0 1 +": "error 210", "touch 0 5000 1 0 1": "error 290", "touch 0 0 0 0 1": "error 2",
		`query sum by(b,a)(rate({a="x"}[5m]))`: `sum by (a, b) (rate({a="x"}[5m]))`, "query 1 < 2": "1 < 2", "query 1 +": "error 210 at 3", "query ": "error 210 at 0", "query  ;": "error 200 at 1", "query topk(0, 1)": "error 210 at 0", "query " + strings.Repeat("1+", 20) + "1": "error 220 at 0", `query {a="("}`: `{a="("}`,
		`turn 0 0 1 {a="x"}`: "nothing", `turn -1 0 1 {a="z"}`: "nothing", "turn 0 0 1 {a=\"\"}": "nothing",
		"": "", "#": "", "# bad": "", "#push": "",
	} {
		got := run(t, append(lines[:4:4], line)...)
		if got != strings.TrimSuffix(before+want, "; ") {
			t.Errorf("%s: %s", line, got)
		}
	}
}

// TestBad covers P32.1: lines that have none of the forms end the script.
func TestBad(t *testing.T) {
	for _, line := range []string{
		" ", " #", "x", "count ", "count 1", " count", "Count", "judge x", "judge ", "counts", "push", "push 1", "push x {a=\"x\"} |= \"y\"", "push 01 {a=\"x\"} |= \"y\"", "push -0 {a=\"x\"} |= \"y\"", "push +1 {a=\"x\"} |= \"y\"", "push 9007199254740992 {a=\"x\"} |= \"y\"", "push -9007199254740992 {a=\"x\"} |= \"y\"", "push 99999999999999999999 {a=\"x\"} |= \"y\"", "push  1 {a=\"x\"} |= \"y\"", "push 1 ", `push 1 {a="x"}`, `push 1 {a="x"} != "y"`, `push 1 {a="x"} |= "y" |= "z"`, `push 1 {a="x"} | json`, `push 1 {a=~"x"} |= "y"`, `push 1 {a!="x"} |= "y"`, `push 1 {a="x", a="y"} |= "y"`, `push 1 {a="x", a=""} |= "y"`, "push 1 1 + 2", "push 1 {", `push 1 {a="` + strings.Repeat("v", 257) + `"} |= "y"`, `push 1 {} |= "y"`,
		"ask", "ask 0 0 1 0", "ask 0 0 1 {a=\"x\"}", "ask 0 0 1 x 1", "ask 0 0 1 0.5 1", "touch 0 0 1 0", "touch 0 0 1", "query", "turn", "turn 0 0 1", "turn 0 0 {a=\"x\"}", `turn 0 0 1 {a="x"} |= "y"`, `turn 0 0 1 {a=~"x"}`, "turn 0 0 1 1", `turn 0 0 x {a="x"}`, "count\r", "\tcount", "\x00",
	} {
		if got := run(t, "count", "", line, "count", "query ;"); got != "0 streams 0 entries; bad 3" {
			t.Errorf("%q: %s", line, got)
		}
	}
}

// TestLimits covers P32.1: the bytes and the lines of a script.
func TestLimits(t *testing.T) {
	if MaxText != 262144 || MaxLines != 1000 {
		t.Errorf("%d, %d", MaxText, MaxLines)
	}
	if out, e := Run(strings.Repeat("#", MaxText)); out != "" || e != api.OK {
		t.Errorf("%q, %d", out, e)
	}
	if out, e := Run(strings.Repeat("x", MaxText+1)); out != "" || e != api.ErrLimit {
		t.Errorf("%q, %d", out, e)
	}
	for lines, want := range map[int]string{999: "ok\n", 1000: "ok\nbad 1001\n", 1200: "ok\nbad 1001\n"} {
		if out, e := Run(`push 1 {a="x"} |= "y"` + strings.Repeat("\n", lines)); out != want || e != api.OK {
			t.Errorf("%d newlines: %q, %d", lines, out, e)
		}
	}
	if out, _ := Run(strings.Repeat("\n", 999) + "count"); out != "0 streams 0 entries\n" {
		t.Errorf("%q", out)
	}
}

// TestTurn covers P32.1: flipped bytes are told, and found by judge.
func TestTurn(t *testing.T) {
	var lines []string
	for i := range 40 {
		lines = append(lines, "push "+strconv.Itoa(i)+` {a="x"} |= "line"`)
	}
	ask := `ask 0 9 1 1 {a="x"}`
	for by, want := range map[string]string{"1": "error 80", "-1": "error 80", "256": `8 {a="x"} "line"`, "0": `8 {a="x"} "line"`, "-512": `8 {a="x"} "line"`, "257": "error 80"} {
		got := run(t, append(lines, "turn 0 5 "+by+` {a="x"}`, ask)...)
		if !strings.HasSuffix(got, "; turned; "+want) {
			t.Errorf("%s: %s", by, got)
		}
	}
	// -1 flips all bits of the byte, as 255 does.
	got := run(t, append(lines, ask, "judge", `turn 0 5 -1 {a="x"}`, "judge", ask, "judge", `turn 0 5 255 {a="x"}`, ask, "judge", `turn 1 0 1 {a="x"}`, `turn 0 99999 1 {a="x"}`)...)
	if want := `8 {a="x"} "line"; fine; turned; fine; error 80; 42; turned; 8 {a="x"} "line"; 42; nothing; nothing`; !strings.HasSuffix(got, "ok; "+want) {
		t.Error(got)
	}
}

// script returns random lines, all of which are good.
func script(random *rand.Rand) []string {
	pick := sample.Pick(random.Intn)
	lines := []string{}
	for _, p := range pick.Pushes(40) {
		text := labels.Text(p.Labels) + " |= " + quote.Quote(p.List[0].Line)
		lines = append(lines, "push "+strconv.Itoa(p.List[0].At+random.Intn(2))+" "+text)
		switch random.Intn(6) {
		case 0, 1:
			lines = append(lines, "ask "+strconv.Itoa(random.Intn(20))+" 40 "+strconv.Itoa(1+random.Intn(9))+" 5 "+pick.Query())
		case 2:
			lines = append(lines, "touch 0 40 3 5 "+pick.Query())
		case 3:
			lines = append(lines, []string{"", "# x", "count", "query " + pick.Query(), "judge"}[random.Intn(5)])
		}
	}
	return lines
}

// TestLaws covers P32.2 to P32.5 on random scripts.
func TestLaws(t *testing.T) {
	random := rand.New(rand.NewSource(32))
	for range 25 {
		lines := append(script(random), "judge")
		whole := run(t, lines...)
		if !strings.HasSuffix(whole, "fine") || strings.Contains(whole, "bad") {
			t.Fatalf("%s: %s", lines, whole)
		}
		cut := random.Intn(len(lines))
		if first := run(t, lines[:cut]...); !strings.HasPrefix(whole, first) {
			t.Fatalf("%s: %s", lines, first)
		}
		var padded []string
		for _, line := range lines {
			padded = append(padded, []string{"", "#", "# judge"}[random.Intn(3)], line)
		}
		if got := run(t, padded...); got != whole {
			t.Fatalf("%s: %s, padded %s", lines, whole, got)
		}
		checkRows(t, lines)
	}
}

// checkRows asks for all entries that were pushed.
func checkRows(t *testing.T, lines []string) {
	t.Helper()
	accepted := map[string]int{}
	var pushes []string
	for _, line := range lines {
		if !strings.HasPrefix(line, "push") {
			continue
		}
		pushes = append(pushes, line)
		if strings.HasSuffix(run(t, pushes...), "ok") {
			fields := strings.SplitN(line, " ", 3)
			set, text, _ := strings.Cut(fields[2], " |= ")
			accepted[fields[1]+" "+set+" "+text]++
		}
	}
	all := run(t, append(pushes, `ask 0 1000 1 1000 {a=~".*"}`)...)
	rows := strings.Split(all, "; ")[len(pushes):]
	for _, row := range rows {
		accepted[row]--
	}
	for row, count := range accepted {
		if count != 0 {
			t.Fatalf("%s: %d too few", row, count)
		}
	}
}
