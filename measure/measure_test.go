package measure

import (
	"math/big"
	"math/rand"
	"strconv"
	"strings"
	"testing"

	"driftnet/api"
	"driftnet/rat"
)

func value(t *testing.T, s string) api.Rat {
	t.Helper()
	r, e := rat.Read(s)
	if e != api.OK {
		t.Fatalf("%s: %d", s, e)
	}
	return r
}

func check(t *testing.T, name string, run func(string) (api.Rat, api.Errno), good map[string]string, bad []string) {
	t.Helper()
	for s, want := range good {
		if r, e := run(s); e != api.OK || !rat.Same(r, value(t, want)) {
			t.Errorf("%s(%s): %v, %d", name, s, r, e)
		}
	}
	for _, s := range bad {
		if r, e := run(s); e != api.ErrSyntax || !rat.Same(r, api.Rat{}) {
			t.Errorf("%s(%s): %v, %d", name, s, r, e)
		}
	}
}

// TestNumber covers P3.1 for decimal numbers.
func TestNumber(t *testing.T) {
	forty := strings.Repeat("7", 40)
	check(t, "Number", Number, map[string]string{
		"0": "0", "-0": "0", "0.0": "0", "-0.00": "0", "1.25": "5/4", "-3": "-3", "0.50": "1/2", "10": "10", "-0.001": "-1/1000", "0.05": "1/20", "100.100": "1001/10",
		forty: forty, "-" + forty: "-" + forty, "0." + strings.Repeat("0", 39): "0", forty[:39] + ".0": forty[:39],
		"0." + strings.Repeat("0", 38) + "1": "1/1" + strings.Repeat("0", 39),
	}, []string{"", "-", "01", "1.", ".5", "-.5", "00", "1.2.3", "1..2", "+1", " 1", "1 ", "1e5", "--1", "0x1", "1,5", "٣", forty + "7", forty + ".0", "0." + strings.Repeat("0", 40)})
}

// TestTime covers P3.1 and P3.4 for durations.
func TestTime(t *testing.T) {
	long := "1s" + strings.Repeat("0", 100)
	most := "0." + strings.Repeat("1", 38) + "w0." + strings.Repeat("1", 38) + "d1h2m3s4ms5us6ns"
	check(t, "Time", Time, map[string]string{
		"1h30m": "5400000", "1.5s": "1500", "-2ms": "-2", "1us": "1/1000", "1ns": "1/1000000", "0s": "0", "-0h": "0", "1w": "604800000", "1d": "86400000", "1m": "60000", "1m1ms": "60001", "1w1d1h1m1s1ms1us1ns": "694861001001001/1000000",
		"0.5m0.5s": "30500", "-1h1s": "-3601000", "2ms3ns": "2000003/1000000",
	}, []string{"", "-", "5", "s", "1s1m", "1m1m", "1ms1s", "1.s", ".5s", "01s", "1x", "1S", "1 s", "1s ", "-1s-1ms", "--1s", "1s2", "1h-1m", "1ss", "1µs", "+1s", long, most + strings.Repeat("0", 100-len(most)) + "1", strings.Repeat("1", 41) + "s"})
	// The limits are reached, but not exceeded.
	exact := strings.Repeat("1", 40) + "w" + strings.Repeat("1", 40) + "d" + strings.Repeat("1", 16) + "h"
	if _, e := Time(exact + "1"); len(exact) != 99 || e != api.ErrSyntax {
		t.Errorf("%d bytes: %d", len(exact)+1, e)
	}
	if r, e := Time("-" + exact); e != api.OK || !r.Neg {
		t.Errorf("100 bytes: %v, %d", r, e)
	}
	if r, e := Time("-1" + exact[1:98] + "1h"); e != api.ErrSyntax {
		t.Errorf("101 bytes: %v, %d", r, e)
	}
}

// TestParts covers P3.4: a duration is the sum of its parts.
func TestParts(t *testing.T) {
	random := rand.New(rand.NewSource(1))
	for range 300 {
		total, text := rat.Of(0), ""
		for _, u := range timeUnits {
			if random.Intn(2) == 0 {
				continue
			}
			part := strconv.Itoa(random.Intn(1000)) + "." + strconv.Itoa(random.Intn(1000)) + u.name
			r, e := Time(part)
			if e != api.OK {
				t.Fatalf("%s: %d", part, e)
			}
			total, _ = rat.Add(total, r)
			text += part
		}
		if text == "" {
			continue
		}
		r, e := Time(text)
		back, f := Time("-" + text)
		negative, _ := rat.Neg(total)
		if e != api.OK || f != api.OK || !rat.Same(r, total) || !rat.Same(back, negative) {
			t.Fatalf("%s: %v, %v", text, r, back)
		}
	}
}

// TestSize covers P3.1 and P3.4 for sizes.
func TestSize(t *testing.T) {
	check(t, "Size", Size, map[string]string{
		"0B": "0", "5B": "5", "5KB": "5000", "1.5KiB": "1536", "1MB": "1000000", "1GB": "1000000000", "1TB": "1000000000000", "1MiB": "1048576", "1GiB": "1073741824", "1TiB": "1099511627776", "0.3B": "3/10",
	}, []string{"", "5", "B", "5kb", "5K", "5Ki", "5KIB", "-5B", "-0B", "5 B", "5B ", "5BB", "5KB5B", "1.B", "01B", "5PB", "5b", strings.Repeat("1", 41) + "B"})
	for _, units := range [][]string{{"B", "KB", "MB", "GB", "TB"}, {"B", "KiB", "MiB", "GiB", "TiB"}} {
		for i := range 4 {
			less, _ := Size("3.7" + units[i])
			more, _ := Size("3.7" + units[i+1])
			times, _ := rat.Div(more, less)
			if n, _ := rat.Whole(times); n != 1000 && units[1] == "KB" || n != 1024 && units[1] == "KiB" {
				t.Errorf("%s: %d", units[i+1], n)
			}
		}
	}
}

// TestWrite covers P3.2: shortest texts, and what has none.
func TestWrite(t *testing.T) {
	tenth := "1/1" + strings.Repeat("0", 39)
	forty := strings.Repeat("9", 40)
	for _, c := range []struct {
		name string
		run  func(api.Rat) (string, api.Errno)
		good map[string]string
		bad  []string
	}{
		{"WriteNumber", WriteNumber, map[string]string{"5/4": "1.25", "0": "0", "-3": "-3", "1/2": "0.5", "-1/1000": "-0.001", "100": "100", forty: forty, "-" + forty: "-" + forty, tenth: "0." + strings.Repeat("0", 38) + "1", "10": "10"},
			[]string{"1/3", "-1/7", "1" + strings.Repeat("0", 40), tenth + "0", "1/1" + strings.Repeat("0", 60), forty + "/2", strings.Repeat("9", 150)}},
		{"WriteTime", WriteTime, map[string]string{"5400000": "1h30m", "0": "0ms", "1": "1ms", "-61001": "-1m1s1ms", "86400000": "24h", "3600001": "1h1ms", "9007199254740991": "2501999792h59m991ms", "-1000": "-1s", "-9007199254740991": "-2501999792h59m991ms"},
			[]string{"1/2", "9007199254740992", "-9007199254740992"}},
		{"WriteSize", WriteSize, map[string]string{"5": "5B", "0": "0B", "1000": "1000B", "9007199254740991": "9007199254740991B"}, []string{"-1", "1/2", "9007199254740992"}},
	} {
		for s, want := range c.good {
			if got, e := c.run(value(t, s)); e != api.OK || got != want {
				t.Errorf("%s(%s): %s, %d", c.name, s, got, e)
			}
		}
		for _, s := range c.bad {
			if got, e := c.run(value(t, s)); e != api.ErrArg || got != "" {
				t.Errorf("%s(%s): %s, %d", c.name, s, got, e)
			}
		}
		for _, r := range []api.Rat{{}, {Num: []uint32{2}, Den: []uint32{4}}, {Num: make([]uint32, 20), Den: []uint32{1}}, {Neg: true, Den: []uint32{1}}} {
			if got, e := c.run(r); e != api.ErrArg || got != "" {
				t.Errorf("%s(%v): %s, %d", c.name, r, got, e)
			}
		}
	}
}

// TestRoundTrip covers P3.3: formatted numbers are parsed as themselves.
func TestRoundTrip(t *testing.T) {
	random := rand.New(rand.NewSource(2))
	for range 300 {
		n := random.Int63n(2*api.MaxNumber) - api.MaxNumber
		r := rat.Of(int(n >> random.Intn(50)))
		text, e := WriteTime(r)
		if back, f := Time(text); e != api.OK || f != api.OK || !rat.Same(r, back) {
			t.Errorf("%v: %s", r, text)
		}
		if text, e := WriteSize(r); r.Neg != (e == api.ErrArg) {
			t.Errorf("%v: %s", r, text)
		} else if back, f := Size(text); e == api.OK && (f != api.OK || !rat.Same(r, back)) {
			t.Errorf("%v: %s", r, text)
		}
		places := random.Intn(30)
		scale := new(big.Int).Exp(big.NewInt(10), big.NewInt(int64(places)), nil)
		x := new(big.Rat).SetFrac(big.NewInt(n), scale)
		want := value(t, strings.TrimSuffix(x.String(), "/1"))
		number, e := Number(x.FloatString(places))
		if e != api.OK || !rat.Same(number, want) {
			t.Errorf("%s: %v, %d", x.FloatString(places), number, e)
		}
		text, e = WriteNumber(want)
		if back, f := Number(text); e != api.OK || f != api.OK || !rat.Same(want, back) || strings.Contains(text, ".") && strings.HasSuffix(text, "0") {
			t.Errorf("%v: %s", want, text)
		}
	}
}
