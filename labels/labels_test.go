package labels

import (
	"math/rand"
	"slices"
	"strconv"
	"strings"
	"testing"

	"driftnet/api"
)

// of makes labels of names and values in turn.
func of(l ...string) []api.Label {
	var out []api.Label
	for i := 0; i+1 < len(l); i += 2 {
		out = append(out, api.Label{Name: l[i], Value: l[i+1]})
	}
	return out
}

// many returns n valid labels.
func many(n int) []api.Label {
	var out []api.Label
	for i := range n {
		out = append(out, api.Label{Name: "n" + string(rune('a'+i)), Value: "v"})
	}
	return out
}

var (
	long64  = strings.Repeat("n", 64)
	long256 = strings.Repeat("v", 256)
)

// unordered are label sets that are not ordered.
func unordered() [][]api.Label {
	return [][]api.Label{of("b", "1", "a", "2"), of("a", "1", "a", "2"), of("a", ""), of("a", "1", "b", "")}
}

// TestCheck covers P5.1: names and valid stream label sets.
func TestCheck(t *testing.T) {
	for s, want := range map[string]bool{"a": true, "_": true, "Z9_": true, "azAZ09": true, "z0": true, "A": true, long64: true, "": false, "9a": false, "a-b": false, "é": false, "a ": false, long64 + "n": false, "@": false, "[": false, "`": false, "{": false, "/": false, ":": false} {
		if IsName(s) != want {
			t.Errorf("IsName(%q)", s)
		}
	}
	for _, l := range [][]api.Label{nil, {}, of("a", "1", "b", "2"), of(long64, long256), many(16), of("a", "\xff\n")} {
		if e := Check(l); e != api.OK {
			t.Errorf("%v: %d", l, e)
		}
	}
	for _, l := range append(unordered(), of("", "1"), of("a-b", "1"), of("9", "1"), of(long64+"n", "1"), of("a", long256+"v"), many(17)) {
		if e := Check(l); e != api.ErrLabels {
			t.Errorf("%v: %d", l, e)
		}
	}
}

// TestOf covers P5.1: ordering labels.
func TestOf(t *testing.T) {
	for _, c := range []struct{ l, want []api.Label }{
		{nil, nil},
		{of("b", "2", "a", "1", "c", ""), of("a", "1", "b", "2")},
		{of("-", "", "a", "1"), of("a", "1")},
		{append(many(16), of("z", "", "0", "")...), many(16)},
	} {
		if l, e := Of(c.l); e != api.OK || !Same(l, c.want) {
			t.Errorf("Of(%v): %v, %d", c.l, l, e)
		}
	}
	for _, l := range [][]api.Label{of("a", "1", "a", "2"), of("a", "", "a", "1"), of("a", "", "a", ""), of("a", "1", "b", "2", "a", "1"), of("-", "1"), of("a", long256+"v"), many(17), of("", "x")} {
		if got, e := Of(l); e != api.ErrLabels || len(got) > 0 {
			t.Errorf("Of(%v): %v, %d", l, got, e)
		}
	}
}

// TestEdit covers P5.2 and P5.6: Get, Set, Drop, By, Without.
func TestEdit(t *testing.T) {
	ac := of("a", "1", "c", "3")
	for _, c := range []struct {
		name      string
		got, want []api.Label
	}{
		{"between", Set(ac, "b", "2"), of("a", "1", "b", "2", "c", "3")},
		{"first", Set(ac, "A", "2"), of("A", "2", "a", "1", "c", "3")},
		{"last", Set(ac, "d", "2"), of("a", "1", "c", "3", "d", "2")},
		{"replaced", Set(ac, "c", "9"), of("a", "1", "c", "9")},
		{"removed", Set(ac, "a", ""), of("c", "3")},
		{"nothing removed", Set(ac, "b", ""), ac},
		{"any name", Set(nil, "", "x"), of("", "x")},
		{"drop", Drop(ac, "a"), of("c", "3")},
		{"drop nothing", Drop(ac, "x"), ac},
		{"by", By(of("a", "1", "b", "2"), []string{"b", "x", "b"}), of("b", "2")},
		{"by nothing", By(ac, nil), nil},
		{"without", Without(of("a", "1", "b", "2"), []string{"x", "b"}), of("a", "1")},
		{"without nothing", Without(ac, nil), ac},
	} {
		if !Same(c.got, c.want) {
			t.Errorf("%s: %v", c.name, c.got)
		}
	}
	for _, l := range unordered() {
		if len(Set(l, "c", "1"))+len(Drop(l, "x"))+len(By(l, []string{"a"}))+len(Without(l, nil)) > 0 {
			t.Errorf("edited: %v", l)
		}
	}
	if v := Get(of("b", "1", "a", "2", "a", "3"), "a"); v != "2" {
		t.Error(v)
	}
	if v := Get(ac, "b"); v != "" {
		t.Error(v)
	}
}

// TestClean covers P5.3: names of any strings.
func TestClean(t *testing.T) {
	for s, want := range map[string]string{"": "_", "9-x": "_9_x", "a.b": "a_b", "é": "__", "_": "_", "\x00": "_", long64: long64, long64 + "x": long64, "1" + long64: "_1" + long64[:62], "1" + long64[:63]: "_1" + long64[:62], "-1": "_1", strings.Repeat("9", 63): "_" + strings.Repeat("9", 63)} {
		if got := Clean(s); got != want || !IsName(got) {
			t.Errorf("Clean(%q): %s", s, got)
		}
	}
}

// TestCompare covers P5.4: order, equality, texts and keys.
func TestCompare(t *testing.T) {
	rising := [][]api.Label{nil, of("", ""), of("A", "2"), of("a", "1"), of("a", "1", "b", "0"), of("a", "1", "b", "1"), of("a", "10"), of("a", "2"), of("a", "2", "a", "1"), of("aa", ""), of("b", "0")}
	for i, a := range rising {
		for j, b := range rising {
			want := 0
			if i < j {
				want = -1
			} else if i > j {
				want = 1
			}
			if c := Compare(a, b); c != want || Same(a, b) != (want == 0) || (Key(a) == Key(b)) != (want == 0) {
				t.Errorf("%v and %v: %d", a, b, c)
			}
		}
	}
	if s := Text(of("a", "1", "b", "\"\n")); s != `{a="1", b="\"\n"}` {
		t.Error(s)
	}
	if s := Text(of("b", "", "-", "\xff")); s != `{b="", -="\xff"}` || Text(nil) != "{}" {
		t.Error(s)
	}
	if k := Key(of("a", "bc", "", "é")); k != "1:a2:bc0:2:é" || Key(nil) != "" {
		t.Error(k)
	}
}

// TestMemory covers P5.5: arguments are only read, results are new.
func TestMemory(t *testing.T) {
	whole := of("a", "1", "c", "3", "d", "4")
	l, names := whole[:2], []string{"x", "a"}
	ordered, _ := Of(l)
	for _, r := range [][]api.Label{ordered, Set(l, "b", "2"), Set(l, "e", "2"), Set(l, "x", ""), Drop(l, "x"), By(l, []string{"a", "c"}), Without(l, nil), By(l, names), Without(l, names)} {
		for i := range r[:cap(r)] {
			r[:cap(r)][i] = api.Label{Name: "changed"}
		}
	}
	Of(whole)
	back := of("b", "1", "a", "2")
	Of(back)
	if !Same(whole, of("a", "1", "c", "3", "d", "4")) || !Same(back, of("b", "1", "a", "2")) || !slices.Equal(names, []string{"x", "a"}) {
		t.Errorf("%v, %v, %v", whole, back, names)
	}
}

// TestLaws covers P5.6 and P5.7 on many label sets.
func TestLaws(t *testing.T) {
	random := rand.New(rand.NewSource(5))
	var sets [][]api.Label
	for range 60 {
		var l []api.Label
		for _, name := range random.Perm(6)[:random.Intn(6)] {
			l = append(l, api.Label{Name: string(rune('a' + name)), Value: strconv.Itoa(random.Intn(3))})
		}
		ordered, e := Of(l)
		random.Shuffle(len(l), func(i, j int) { l[i], l[j] = l[j], l[i] })
		again, f := Of(l)
		if e != api.OK || f != api.OK || !Same(ordered, again) || Check(ordered) != api.OK {
			t.Fatalf("%v: %v, %v", l, ordered, again)
		}
		sets = append(sets, ordered)
		names := []string{"a", "c", "e"}
		by, without := By(ordered, names), Without(ordered, names)
		both, e := Of(append(slices.Clone(by), without...))
		if e != api.OK || !Same(both, ordered) || Check(by) != api.OK || Check(without) != api.OK || Check(Set(ordered, "c", "x")) != api.OK || Check(Drop(ordered, "c")) != api.OK {
			t.Errorf("%v: %v, %v", ordered, by, without)
		}
	}
	for _, a := range sets {
		for _, b := range sets {
			c := Compare(a, b)
			if c != -Compare(b, a) || Same(a, b) != (c == 0) || (Key(a) == Key(b)) != (c == 0) {
				t.Errorf("%v, %v: %d", a, b, c)
			}
			for _, d := range sets {
				if c <= 0 && Compare(b, d) <= 0 && Compare(a, d) > 0 {
					t.Errorf("%v, %v, %v", a, b, d)
				}
			}
		}
	}
}
