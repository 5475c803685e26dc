package parse

import (
	"math/rand"
	"strings"
	"testing"

	"driftnet/api"
	"driftnet/lex"
	"driftnet/query"
	"driftnet/sample"
)

// TestParse covers P22.1: what is written, shown by the text of the query.
func TestParse(t *testing.T) {
	for s, want := range map[string]string{
		`sum by (b,a)(rate({a="x"}|json[5m]))`: `sum by (a, b) (rate({a="x"} | json[5m]))`,
		"1 - 2 * (3) == bool 4":                "1 - 2 * 3 == bool 4",
		"((1))":                                "1",
		"1-2-3":                                "1 - 2 - 3",
		"1-(2-3)":                              "1 - (2 - 3)",
		"1+2*3-4/5":                            "1 + 2 * 3 - 4 / 5",
		"(1+2)*3":                              "(1 + 2) * 3",
		"1 or 2 and 3 unless 4 or 5":           "1 or 2 and 3 unless 4 or 5",
		"1 and (2 or 3)":                       "1 and (2 or 3)",
		"1<2+3>=bool 4":                        "1 < 2 + 3 >= bool 4",
		"-1 - -2":                              "-1 - -2",
		"-0":                                   "0",
		"1.50":                                 "1.5",
		"1*on(b,a)2":                           "1 * on (a, b) 2",
		"1 == bool ignoring () group_right (z, y) 2": "1 == bool ignoring () group_right (y, z) 2",
		"1 and on () 2":                                              "1 and on () 2",
		"1 / ignoring(a) group_left() 2 + 3":                         "1 / ignoring (a) group_left () 2 + 3",
		`{a="x",b!="y", c=~"z",d!~"w"}`:                              `{a="x", b!="y", c=~"z", d!~"w"}`,
		"{a=`\\n`}|=\"x\"!=\"y\"|~\"z\"!~\"w\"":                      `{a="\\n"} |= "x" != "y" |~ "z" !~ "w"`,
		`{a="x"}|logfmt|json|pattern "<a>"|regexp "b"`:               `{a="x"} | logfmt | json | pattern "<a>" | regexp "b"`,
		`{a="x"}|line_format "c"|label_format b="d"|drop e`:          `{a="x"} | line_format "c" | label_format b = "d" | drop e`,
		`{a="x"}|unwrap duration|unwrap bytes|unwrap z`:              `{a="x"} | unwrap duration | unwrap bytes | unwrap z`,
		`{a="x"}|unwrap duration(d)|unwrap bytes(bytes)`:             `{a="x"} | unwrap duration(d) | unwrap bytes(bytes)`,
		`{a="x"}|a="b" and b!="c" or c=~"d"and d!~"e"`:               `{a="x"} | a = "b" and b != "c" or c =~ "d" and d !~ "e"`,
		`{a="x"}|(a="b" or b="c")and(c="d")`:                         `{a="x"} | (a = "b" or b = "c") and c = "d"`,
		`{a="x"}|a="b"and(b="c"and c="d")`:                           `{a="x"} | a = "b" and (b = "c" and c = "d")`,
		`{a="x"}|a==1|b!=1.50s|c<2KB|d<=0|e>5ms|f>=1KiB`:             `{a="x"} | a == 1 | b != 1s500ms | c < 2000B | d <= 0 | e > 5ms | f >= 1024B`,
		`{a="x"}|and="or" and or="and"|on="x"`:                       `{a="x"} | and = "or" and or = "and" | on = "x"`,
		`quantile_over_time(0.90,{a="x"}|unwrap v[1h30m])`:           `quantile_over_time(0.9, {a="x"} | unwrap v[1h30m])`,
		`rate({a="x"}[5m]offset 1d)`:                                 `rate({a="x"}[5m] offset 24h)`,
		`rate({a="x"}[5m]offset 0s)`:                                 `rate({a="x"}[5m])`,
		`rate({a="x"}|drop offset[5m])`:                              `rate({a="x"} | drop offset[5m])`,
		"topk(3,1)":                                                  "topk(3, 1)",
		"bottomk without(a)(10,1)":                                   "bottomk without (a) (10, 1)",
		"sort(sort_desc(1))":                                         "sort(sort_desc(1))",
		"count(max(min(avg(sum(1)))))":                               "count(max(min(avg(sum(1)))))",
		`count_over_time({a="x"}[1w])`:                               `count_over_time({a="x"}[168h])`,
		`bytes_over_time({sum="rate"}[1ms])+bytes_rate({a="x"}[1s])`: `bytes_over_time({sum="rate"}[1ms]) + bytes_rate({a="x"}[1s])`,
	} {
		x, at, e := Parse(s)
		got, f := query.Write(x)
		if e != api.OK || at != 0 || f != api.OK || got != want {
			t.Errorf("%s: %s, %d at %d", s, got, e, at)
		}
		if again, _, e := Parse(got); e != api.OK || !query.Same(x, again) {
			t.Errorf("%s: %s", s, got)
		}
	}
	x, _, _ := Parse("1 - 2 - 3")
	if x.L[0].Kind != api.ExprBinary || x.L[1].Kind != api.ExprNumber {
		t.Errorf("%+v", x)
	}
}

// TestErrors covers P22.1: the offset of the first token that cannot continue.
func TestErrors(t *testing.T) {
	for s, want := range map[string]int{
		"": 0, "  ": 2, `{a="x"} | json = "x"`: 15, `rate({a="x"}[5m]`: 16, "topk(0, 1)": 0, "1 +": 3, "1 + )": 4, "1 2": 2, "(1": 2, "()": 1, "1)": 1, "a": 0, "foo(1)": 0, "{": 1, "{}": 1, `{a}`: 2, `{a="x"`: 6, `{a="x",}`: 7, `{a="x" b="y"}`: 7, `{a==“`: 4, `{a<"x"}`: 2, `{a=1}`: 3, `{"a"="x"}`: 1, `{a="x"}}`: 7, `{a="x"} 1`: 8, `{a="x"} + 1`: 8, `{a="x"}[5m]`: 7, `({a="x"})`: 1,
		`{a="x"} |`: 9, `{a="x"} | "x"`: 10, `{a="x"} |= x`: 11, `{a="x"} | pattern`: 17, `{a="x"} | pattern x`: 18, `{a="x"} | label_format = "x"`: 23, `{a="x"} | label_format a "x"`: 25, `{a="x"} | label_format a = b`: 27, `{a="x"} | drop`: 14, `{a="x"} | drop "a"`: 15, `{a="x"} | drop a, b`: 16, `{a="x"} | unwrap`: 16, `{a="x"} | unwrap duration(`: 26, `{a="x"} | unwrap duration("a")`: 26, `{a="x"} | unwrap bytes(a`: 24, `{a="x"} | unwrap x(a)`: 18, `{a="x"} | logfmt logfmt`: 17,
		`{a="x"} | a`: 11, `{a="x"} | a = 1`: 14, `{a="x"} | a == "x"`: 15, `{a="x"} | a != b`: 15, `{a="x"} | a < "x"`: 14, `{a="x"} | a =~ 1`: 15, `{a="x"} | a = "x" and`: 21, `{a="x"} | a = "x" and json = "y"`: 22, `{a="x"} | (a = "x"`: 18, `{a="x"} | (json = "x")`: 11, `{a="x"} | a = "x" b`: 18, `{a="x"} | a + 1`: 12, `{a="x"} | a == -1`: 15, `{a="x"} | a == 1.5ms`: 15, `{a="x"} | a == 0.5B`: 15, `{a="x"} | a == 1us`: 15, `{a="x"} | a == 99999999999TB`: 15, `{a="x"} | a == 99999999999999w`: 15,
		"rate": 4, "rate(": 5, "rate(1)": 5, "rate(sum(1))": 5, `rate({a="x"})`: 12, `rate({a="x"}[5])`: 13, `rate({a="x"}[5KB])`: 13, `rate({a="x"}[-5m])`: 13, `rate({a="x"}[1us])`: 13, `rate({a="x"}[5m)`: 15, `rate({a="x"}[5m] offset)`: 23, `rate({a="x"}[5m] offset 5)`: 24, `rate({a="x"}[5m] offset 1ns)`: 24, `rate({a="x"}[5m], 1)`: 16, `rate by (a) ({a="x"}[5m])`: 5, `quantile_over_time({a="x"}[5m])`: 19, `quantile_over_time(0.5 {a="x"}[5m])`: 23, `quantile_over_time(-0.5, {a="x"}[5m])`: 19, `rate(0.5, {a="x"}[5m])`: 5, `rate({a="x"}[9999999999999999999ms])`: 13,
		"sum 1": 4, "sum(": 4, "sum()": 4, "sum(1, 2)": 5, `sum({a="x"})`: 4, "sum by (1)": 8, "sum by a (1)": 7, "sum by (a b) (1)": 10, "sum by (a,) (1)": 10, "sum by (a) 1": 11, "sum by (a) by (b) (1)": 11, "topk(1)": 6, "topk(1.5, 1)": 5, "topk(-1, 1)": 5, "topk(a, 1)": 5, "topk(9007199254740992, 1)": 5, "topk(5, 1": 9, "sum on (a) (1)": 4,
		"1 + bool 2": 4, "1 bool 2": 2, "1 == bool": 9, "1 on (a) + 2": 2, "1 + on a 2": 7, "1 + on (a) group_left 2": 22, "1 + group_left (a) 2": 4, "1 + on (a) bool 2": 11, "1 + - 2": -1, "1 + -a": 5, "--1": 1, "- (1)": 2, "1 = 2": 2, "1 =~ 2": 2, "1 | 2": 2, "+1": 0, `1 "x"`: 2, "1 + 5m": 4, "5KB": 0, `"sum"(1)`: 0, "1 \"or\" 2": 2,
	} {
		x, at, e := Parse(s)
		switch {
		case want < 0:
			if e != api.OK {
				t.Errorf("%s: %d at %d", s, e, at)
			}
		case strings.Contains(s, "“"):
			if e != api.ErrToken || at != want || !query.Same(x, api.Expr{}) {
				t.Errorf("%s: %d at %d", s, e, at)
			}
		case e != api.ErrQuery || at != want || !query.Same(x, api.Expr{}):
			t.Errorf("%s: %d at %d, not %d", s, e, at, want)
		}
	}
}

// TestCheck covers P22.1: errors of tokens come first, those of query.Check last and without an offset.
func TestCheck(t *testing.T) {
	chain := strings.Repeat("1+", 19) + "1"
	conds := strings.Repeat(`a="x" and `, 19) + `a="x"`
	for s, c := range map[string]struct {
		e  api.Errno
		at int
	}{
		strings.Repeat(" ", 4097): {api.ErrLimit, 0}, "1 + + ;": {api.ErrToken, 6}, `{a="x`: {api.ErrToken, 3}, chain: {api.OK, 0}, chain + "+1": {api.ErrDepth, 0}, `{a="x"}|` + conds: {api.OK, 0}, `{a="x"}|` + conds + ` or a="x"`: {api.ErrDepth, 0}, strings.Repeat("(", 2000) + "1" + strings.Repeat(")", 2000): {api.OK, 0}, strings.Repeat("(", 4096): {api.ErrQuery, 4096},
		`rate({a="x"}[0s])`: {api.ErrQuery, 0}, "topk(1001, 1)": {api.ErrQuery, 0}, "topk(9007199254740991, 1)": {api.ErrQuery, 0}, "topk(9007199254740992, 1)": {api.ErrQuery, 5}, `rate({a="x"}[9007199254740991ms])`: {api.OK, 0}, `rate({a="x"}[9007199254740992ms])`: {api.ErrQuery, 13}, `{a="x"} | b < 9007199254740991B`: {api.OK, 0}, "topk(1000, 1)": {api.OK, 0}, "sum by (a, a) (1)": {api.ErrQuery, 0}, `quantile_over_time(1.5, {a="x"}[5m])`: {api.ErrQuery, 0}, "sort by (a) (1)": {api.ErrQuery, 0}, "sort by () (1)": {api.ErrQuery, 0}, "1 and on (a) group_left () 2": {api.ErrQuery, 0}, "{" + strings.Repeat(`a="x",`, 16) + `a="x"}`: {api.ErrQuery, 0}, `{a="x"}` + strings.Repeat("|json", 17): {api.ErrQuery, 0}, "{" + strings.Repeat("a", 65) + `="x"}`: {api.ErrQuery, 0}, `{a="` + strings.Repeat("x", 257) + `"}`: {api.ErrQuery, 0}, `{a="x"} |= "` + strings.Repeat("x", 257) + `"`: {api.ErrQuery, 0},
		`{a="x"}` + strings.Repeat("|="+"`"+strings.Repeat("\x01", 250)+"`", 8): {api.ErrLimit, 0},
	} {
		if x, at, e := Parse(s); e != c.e || at != c.at || e != api.OK && !query.Same(x, api.Expr{}) {
			t.Errorf("%s: %d at %d", s, e, at)
		}
	}
}

// TestRoundTrip covers P22.3: the text of a valid query is parsed as that query.
func TestRoundTrip(t *testing.T) {
	random := rand.New(rand.NewSource(22))
	pick := sample.Pick(random.Intn)
	for range 5000 {
		x := pick.Expr(random.Intn(5))
		if random.Intn(5) == 0 {
			x = pick.Log()
		}
		s, e := query.Write(x)
		if e == api.ErrLimit {
			continue
		}
		got, at, f := Parse(s)
		if e != api.OK || f != api.OK || at != 0 || !query.Same(got, x) {
			t.Fatalf("%s: %+v, %d at %d", s, got, f, at)
		}
		checkSpace(t, random, s, x)
	}
}

// checkSpace covers P22.5: white space and parentheses that may be added change nothing.
func checkSpace(t *testing.T, random *rand.Rand, s string, x api.Expr) {
	t.Helper()
	tokens, _, _ := lex.Tokens(s)
	var spaced strings.Builder
	for i, token := range tokens {
		end := len(s)
		if i+1 < len(tokens) {
			end = tokens[i+1].At
		}
		spaced.WriteString([]string{" ", "\n", "\t\r  "}[random.Intn(3)] + strings.TrimRight(s[token.At:end], " ") + " ")
	}
	if spaced.Len() <= api.MaxQuery {
		if got, _, e := Parse(spaced.String()); e != api.OK || !query.Same(got, x) {
			t.Fatalf("%s: %d", spaced.String(), e)
		}
	}
	if x.Kind != api.ExprLog && len(s)+4 <= api.MaxQuery {
		if got, _, e := Parse("((" + s + "))"); e != api.OK || !query.Same(got, x) {
			t.Fatalf("((%s)): %d", s, e)
		}
	}
}

// TestNoise covers P22.4 and P22.6: any tokens are parsed as a valid query, or refused at one that does not depend on those after it.
func TestNoise(t *testing.T) {
	random := rand.New(rand.NewSource(23))
	pick := sample.Pick(random.Intn)
	pieces := []string{"(", ")", "{", "}", "[", "]", ",", "|", "|=", "=", "!=", "==", "+", "-", "1", "0.5", "5m", "2KB", `"x"`, "a", "json", "unwrap", "duration", "and", "or", "rate", "sum", "topk", "by", "on", "group_left", "bool", "offset", "quantile_over_time", "drop"}
	parsed := 0
	for range 20000 {
		x := pick.Expr(random.Intn(3))
		s, _ := query.Write(x)
		tokens, _, _ := lex.Tokens(s)
		if len(tokens) == 0 {
			continue
		}
		at := tokens[random.Intn(len(tokens))].At
		rest := s[at:]
		if i := strings.IndexAny(rest, " "); i >= 0 && random.Intn(2) == 0 {
			rest = rest[i:]
		}
		s = s[:at] + " " + pieces[random.Intn(len(pieces))] + " " + rest
		got, offset, e := Parse(s)
		switch e {
		case api.OK:
			parsed++
			text, f := query.Write(got)
			again, _, g := Parse(text)
			if query.Check(got) != api.OK || f != api.OK || g != api.OK || !query.Same(got, again) {
				t.Fatalf("%s: %s", s, text)
			}
		case api.ErrQuery:
			if offset == 0 {
				continue
			}
			if y, end, f := Parse(s[:offset]); f == api.ErrQuery && end != offset && end != 0 || f != api.OK && f != api.ErrQuery {
				t.Fatalf("%s: at %d; cut off there %+v, %d at %d", s, offset, y, f, end)
			}
			if wrong, _, _ := lex.Tokens(s[offset:]); len(wrong) > 1 {
				cut := s[:offset+wrong[1].At] + " " + pieces[random.Intn(len(pieces))]
				if _, end, _ := Parse(cut); end != offset {
					t.Fatalf("%s: at %d; %s: at %d", s, offset, cut, end)
				}
			}
		}
	}
	if parsed < 200 {
		t.Errorf("%d parsed", parsed)
	}
}

// TestMemory covers P22.2: results share nothing.
func TestMemory(t *testing.T) {
	s := `sum by (a) (rate({a="x"}[5m])) + 1`
	x, _, _ := Parse(s)
	y := query.Copy(x)
	x.L[0].Names[0], x.L[0].L[0].L[0].Matchers[0].Name, x.L[1].V.Num[0] = "z", "z", 9
	if again, _, _ := Parse(s); !query.Same(again, y) {
		t.Errorf("%+v", again)
	}
}
