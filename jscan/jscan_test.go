package jscan

import (
	"encoding/json"
	"math/rand"
	"strconv"
	"strings"
	"testing"

	"driftnet/api"
	"driftnet/labels"
)

func nested(open, inside, close string, count int) string {
	return strings.Repeat(open, count) + inside + strings.Repeat(close, count)
}

// TestFlatten covers P17.1: lines and their labels.
func TestFlatten(t *testing.T) {
	long := strings.Repeat("k", 50)
	for line, want := range map[string]string{
		`{"a": 1.50, "b": {"c": "x", "d": true}, "e": null, "f": [1]}`: `{a="1.50", b_c="x", b_d="true"}`,
		`{"a": "\u00e9\ud83d\ude00", "9": "\/"}`:                       `{_9="/", a="é😀"}`,
		"{}":                                                           "{}",
		" \t\r\n{ } \n":                                                "{}",
		`{"a":0,"b":-0,"c":-1.5e+10,"d":2E-3}`:                         `{a="0", b="-0", c="-1.5e+10", d="2E-3"}`,
		`{"a":false,"b":true,"c":1e5}`:                                 `{a="false", b="true", c="1e5"}`,
		`{"a":"x","a":"y"}`:                                            `{a="y"}`,
		`{"a":"x","a":""}`:                                             "{}",
		`{"a":"x","a":null}`:                                           "{}",
		`{"a":"x","a":[1]}`:                                            `{a="x"}`,
		`{"a":"x","a":{}}`:                                             `{a="x"}`,
		`{"a":"x","a":{"b":1}}`:                                        `{a="x", a_b="1"}`,
		`{"a":null,"a":"x"}`:                                           `{a="x"}`,
		`{"a_b":1,"a":{"b":2}}`:                                        `{a_b="2"}`,
		`{"a":{"b":2},"a.b":null}`:                                     "{}",
		`{"":"x"}`:                                                     `{_="x"}`,
		`{"":{"":"x"}}`:                                                `{_="x"}`,
		`{"":{"":{"":"x"}}}`:                                           `{__="x"}`,
		`{"1":{"2":3}}`:                                                `{_1_2="3"}`,
		`{"é":1}`:                                                      `{__="1"}`,
		`{"\u0061":1}`:                                                 `{a="1"}`,
		`{"a":"\"\\\b\f\n\r\t"}`:                                       `{a="\"\\\x08\x0c\n\r\t"}`,
		`{"a":"\ud800"}`:                                               `{a="�"}`,
		`{"a":"\udc00\ud800\u0041"}`:                                   `{a="��A"}`,
		`{"a":"\ud800\ud800\udc00"}`:                                   `{a="�𐀀"}`,
		`{"a":"\ud800x"}`:                                              `{a="�x"}`,
		`{"a":"\ud800\n"}`:                                             `{a="�\n"}`,
		`{"a":"\uDBFF\uDFFF"}`:                                         `{a="` + "\U0010FFFF" + `"}`,
		`{"a":"\ud7ff\ue000\uffff"}`:                                   "{a=\"\ud7ff\ue000\uffff\"}",
		`{"a":"\udfff\udbff\ue000"}`:                                   "{a=\"\ufffd\ufffd\ue000\"}",
		`{"a":"\udbff\udbff\udc01"}`:                                   "{a=\"\ufffd\U0010FC01\"}",
		`{"a":"\u0000"}`:                                               `{a="\x00"}`,
		"{\"a\":\"\xff\x7f\"}":                                         `{a="�\x7f"}`,
		`{"a":[{"b":1},[],"x",null,true,-1]}`:                          "{}",
		`{"b":1,"a":[{"b":2}]}`:                                        `{b="1"}`,
		`{"a" : [ 1 , 2 ] , "b" : "x" }`:                               `{b="x"}`,
		`{"` + long + `":{"` + long + `":1}}`:                          `{` + long + "_" + long[:13] + `="1"}`,
		`{"9` + long + long + `":1}`:                                   `{_9` + long + long[:12] + `="1"}`,
		`{"__error__":1}`:                                              `{__error__="1"}`,
		nested(`{"a":`, "1", "}", 20):                                  `{` + strings.Repeat("a_", 19) + `a="1"}`,
		`{"a":` + nested("[", "", "]", 19) + `}`:                       "{}",
		`{"a":` + nested("[", "", "]", 19) + `,"b":` + nested("[", "", "]", 19) + "}": "{}",
	} {
		l, ok := Flatten(line)
		if !ok || labels.Text(l) != want {
			t.Errorf("%s: %s, %v", line, labels.Text(l), ok)
		}
	}
}

// TestInvalid covers P17.1: lines that do not have the form.
func TestInvalid(t *testing.T) {
	for _, line := range []string{
		"", "[1]", `"x"`, "1", "null", `{"a":01}`, `{"a":1,}`, `{"a" 1}`, "{} x", "{}{}", "{", "}", "{,}", `{"a"}`, `{"a":}`, `{"a":1 "b":2}`, `{"a":1,,"b":2}`, `{a:1}`, `{'a':1}`, `{1:1}`, `{"a":[1,]}`, `{"a":[,1]}`, `{"a":[1 2]}`, `{"a":[1}`, `{"a":[`, `{"a":{"b":1}`,
		`{"a":+1}`, `{"a":-}`, `{"a":.5}`, `{"a":1.}`, `{"a":1e}`, `{"a":1e+}`, `{"a":1e+-1}`, `{"a":-01}`, `{"a":0x1}`, `{"a":1_0}`, `{"a":NaN}`, `{"a":tru}`, `{"a":True}`, `{"a":nullx}`, `{"a":falsey}`,
		`{"a":"x}`, `{"a":"\q"}`, `{"a":"\u12"}`, `{"a":"\u12g4"}`, `{"a":"\u+123"}`, `{"a":"\x41"}`, `{"a":"\ud800\u12"}`, "{\"a\":\"\n\"}", "{\"a\":\"\x1f\"}", "{\"a\":\"\x00\"}", `{"a":"\`, `{"a":"\u00`, "{\u00a0}", "{}\x00", "{}\v", "\ufeff{}",
		nested(`{"a":`, "1", "}", 21), `{"a":` + nested("[", "", "]", 20) + `}`, `{"a":` + strings.Repeat("[", 100000), strings.Repeat(`{"a":`, 100000),
	} {
		if l, ok := Flatten(line); ok || len(l) > 0 {
			t.Errorf("%q: %v", line, l)
		}
	}
}

// object returns the text of a random object of strings and objects whose member names are names, and its labels.
func object(random *rand.Rand, deep int, prefix string) (string, []api.Label) {
	var parts []string
	var all []api.Label
	for i := range random.Intn(4) {
		name := string(rune('a'+i)) + strconv.Itoa(random.Intn(3))
		key, _ := json.Marshal(name)
		if deep > 0 && random.Intn(3) == 0 {
			text, l := object(random, deep-1, prefix+name+"_")
			parts = append(parts, string(key)+":"+text)
			all = append(all, l...)
			continue
		}
		value := []string{"x", "é\"\\", "\x01\n", "<&>", "😀", " "}[random.Intn(6)]
		quoted, _ := json.Marshal(value)
		parts = append(parts, string(key)+":"+string(quoted))
		all = append(all, api.Label{Name: prefix + name, Value: value})
	}
	return "{" + strings.Join(parts, ",") + "}", all
}

// TestLaws covers P17.2 to P17.4 on many objects.
func TestLaws(t *testing.T) {
	random := rand.New(rand.NewSource(17))
	for range 2000 {
		text, want := object(random, 3, "")
		want, e := labels.Of(want)
		if e != api.OK {
			continue
		}
		l, ok := Flatten(text)
		if !ok || !labels.Same(l, want) {
			t.Fatalf("%s: %v", text, l)
		}
		var spaced strings.Builder
		inString := false
		for i := range len(text) {
			c := text[i]
			if c == '"' && (i == 0 || text[i-1] != '\\' || strings.HasSuffix(text[:i], `\\`)) {
				inString = !inString
			}
			spaced.WriteByte(c)
			if !inString && strings.IndexByte("{}:,", c) >= 0 {
				spaced.WriteString([]string{"", " ", "\t\r\n"}[random.Intn(3)])
			}
		}
		if l, ok := Flatten(spaced.String()); !ok || !labels.Same(l, want) {
			t.Fatalf("%s: %v", spaced.String(), l)
		}
		inner, ok := Flatten(`{"in":` + text + "}")
		for i := range inner {
			if i < len(want) && (inner[i].Name != "in_"+want[i].Name || inner[i].Value != want[i].Value) {
				t.Fatalf("%s: %v", text, inner)
			}
		}
		if !ok || len(inner) != len(want) {
			t.Fatalf("%s: %v", text, inner)
		}
		for _, bad := range []string{text[:len(text)-1], text + "x", text + "}", text + "\x00", text + "0"} {
			if l, ok := Flatten(bad); ok || len(l) > 0 {
				t.Fatalf("%s: %v", bad, l)
			}
		}
	}
}

// TestNoise covers P17.1: what is accepted is JSON, apart from the limit of depth and invalid bytes.
func TestNoise(t *testing.T) {
	random := rand.New(rand.NewSource(18))
	pieces := []string{"{", "}", "[", "]", ",", ":", `"a"`, `"b"`, "1", "-", "0", ".", "e", "true", "null", " ", `"\u00e9"`, `"`, "\\"}
	for range 200000 {
		var text strings.Builder
		text.WriteString(`{"a":`)
		for range random.Intn(6) {
			text.WriteString(pieces[random.Intn(len(pieces))])
		}
		text.WriteString("}")
		if _, ok := Flatten(text.String()); ok != json.Valid([]byte(text.String())) {
			t.Fatalf("%s: %v", text.String(), ok)
		}
	}
}
