package block

import (
	"bytes"
	"math"
	"math/rand"
	"slices"
	"strings"
	"testing"

	"driftnet/api"
	"driftnet/seal"
)

func entry(at int, line string) api.Entry {
	return api.Entry{At: at, Line: line}
}

func noise(random *rand.Rand) []api.Entry {
	at := random.Intn(2*api.MaxNumber) - api.MaxNumber
	var l []api.Entry
	for range 1 + random.Intn(32) {
		line := make([]byte, random.Intn(30))
		random.Read(line)
		l = append(l, entry(at, string(line)))
		at = min(api.MaxNumber, at+random.Intn(1<<random.Intn(50)))
	}
	return l
}

var longest = strings.Repeat("x", 4096)

// TestCheck covers P8.1: the errors, in order, for Check and Pack.
func TestCheck(t *testing.T) {
	for _, c := range []struct {
		l []api.Entry
		e api.Errno
	}{
		{nil, api.ErrArg},
		{make([]api.Entry, 33), api.ErrArg},
		{append(make([]api.Entry, 32), entry(math.MaxInt, "")), api.ErrArg},
		{make([]api.Entry, 32), api.OK},
		{[]api.Entry{entry(5, longest)}, api.OK},
		{[]api.Entry{entry(-api.MaxNumber, ""), entry(api.MaxNumber, "")}, api.OK},
		{[]api.Entry{entry(7, ""), entry(5, "")}, api.ErrOrder},
		{[]api.Entry{entry(api.MaxNumber+1, longest+"x")}, api.ErrRange},
		{[]api.Entry{entry(math.MinInt, "")}, api.ErrRange},
		{[]api.Entry{entry(1, ""), entry(-api.MaxNumber-1, "")}, api.ErrRange},
		{[]api.Entry{entry(1, ""), entry(0, longest+"x")}, api.ErrOrder},
		{[]api.Entry{entry(1, longest+"x"), entry(0, "")}, api.ErrLine},
		{[]api.Entry{entry(1, ""), entry(1, longest+"x")}, api.ErrLine},
	} {
		b, e := Pack(c.l)
		if f := Check(c.l); e != c.e || f != c.e || e != api.OK && len(b) > 0 {
			t.Errorf("%d entries: %d, %d, not %d", len(c.l), e, f, c.e)
		}
	}
}

// TestPack covers P8.1: the encoding, sealed.
func TestPack(t *testing.T) {
	b, e := Pack([]api.Entry{entry(5, "a"), entry(7, "")})
	if want := seal.Put([]byte{2, 10, 2, 1, 'a', 0}); e != api.OK || !bytes.Equal(b, want) {
		t.Errorf("%x, %d", b, e)
	}
	b, e = Pack([]api.Entry{entry(-api.MaxNumber, ""), entry(api.MaxNumber, "")})
	if want := seal.Put([]byte("\x02\xfd\xff\xff\xff\xff\xff\xff\x1f\xfe\xff\xff\xff\xff\xff\xff\x1f\x00\x00")); e != api.OK || !bytes.Equal(b, want) {
		t.Errorf("%x, %d", b, e)
	}
}

// TestUnpack covers P8.2: what is exactly the encoding of a valid block.
func TestUnpack(t *testing.T) {
	good, _ := Pack([]api.Entry{entry(5, "a"), entry(7, "")})
	for name, b := range map[string][]byte{
		"nothing":         nil,
		"shorter":         good[:len(good)-1],
		"longer":          append(slices.Clone(good), 0),
		"no entries":      seal.Put([]byte{0, 10}),
		"no first time":   seal.Put([]byte{0}),
		"empty":           seal.Put(nil),
		"more inside":     seal.Put([]byte{2, 10, 2, 1, 'a', 0, 0}),
		"less inside":     seal.Put([]byte{2, 10, 2, 1, 'a'}),
		"a long number":   seal.Put([]byte{0x82, 0, 10, 2, 1, 'a', 0}),
		"33 entries":      seal.Put(append([]byte{33, 10}, make([]byte, 65)...)),
		"too many":        seal.Put([]byte("\xfe\xff\xff\xff\xff\xff\xff\x1f\x00\x00")),
		"time too great":  seal.Put([]byte("\x02\xfe\xff\xff\xff\xff\xff\xff\x1f\x01\x00\x00")),
		"a line too long": seal.Put(append([]byte{1, 10, 0x81, 0x20}, make([]byte, 4097)...)),
		"not sealed":      {2, 10, 2, 1, 'a', 0},
	} {
		if l, e := Unpack(b); e != api.ErrCorrupt || len(l) > 0 {
			t.Errorf("%s: %v, %d", name, l, e)
		}
	}
	if l, e := Unpack(seal.Put(append([]byte{1, 10, 0x80, 0x20}, make([]byte, 4096)...))); e != api.OK || len(l) != 1 {
		t.Errorf("%d entries, %d", len(l), e)
	}
}

// TestRoundTrip covers P8.3, P8.5 and P8.6.
func TestRoundTrip(t *testing.T) {
	random := rand.New(rand.NewSource(8))
	for range 500 {
		l := noise(random)
		kept := slices.Clone(l)
		b, e := Pack(l)
		sealed := slices.Clone(b)
		got, f := Unpack(b)
		if e != api.OK || f != api.OK || !slices.Equal(got, l) || !slices.Equal(l, kept) || !bytes.Equal(sealed, b) {
			t.Fatalf("%v: %v, %d, %d", l, got, e, f)
		}
		if again, _ := Pack(got); !bytes.Equal(again, b) {
			t.Fatalf("%x: %x", b, again)
		}
		first, last := l[0].At, l[len(l)-1].At
		one, _ := Pack(l[:1])
		shift := random.Intn(2*api.MaxNumber-(last-first)) - api.MaxNumber - first
		for i := range l {
			l[i].At += shift
		}
		moved, e := Pack(l)
		other, _ := Pack(l[:1])
		if e != api.OK || len(moved)-len(b) != len(other)-len(one) {
			t.Fatalf("%d bytes, %d", len(moved), len(b))
		}
	}
}

// TestFlips covers P8.4: flipped bits within 32 consecutive ones are always noticed.
func TestFlips(t *testing.T) {
	random := rand.New(rand.NewSource(9))
	for range 5000 {
		b, _ := Pack(noise(random))
		first, mask := random.Intn(8*len(b)), random.Uint32()|1
		for i := range 32 {
			if at := first + i; mask>>i&1 == 1 && at < 8*len(b) {
				b[at/8] ^= 1 << (at % 8)
			}
		}
		if l, e := Unpack(b); e != api.ErrCorrupt || len(l) > 0 {
			t.Fatalf("%x at bit %d: %d", mask, first, e)
		}
	}
}
