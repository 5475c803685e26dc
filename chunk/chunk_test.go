package chunk

import (
	"bytes"
	"math"
	"math/rand"
	"slices"
	"strconv"
	"strings"
	"testing"

	"driftnet/api"
	"driftnet/block"
)

func entry(at int, line string) api.Entry {
	return api.Entry{At: at, Line: line}
}

func fill(t *testing.T, l ...api.Entry) *Chunk {
	t.Helper()
	c := New()
	for _, x := range l {
		if e := c.Append(x); e != api.OK {
			t.Fatalf("%v: %d", x, e)
		}
	}
	return c
}

// counted returns n entries at times from 0 on, step apart.
func counted(n, step int) []api.Entry {
	var l []api.Entry
	for i := range n {
		l = append(l, entry(i*step, "line "+strconv.Itoa(i)))
	}
	return l
}

// TestAppend covers P14.1: what is accepted, and what is counted.
func TestAppend(t *testing.T) {
	c := New()
	if at, ok := c.Last(); at != 0 || ok || c.Len() != 0 || c.Blocks() != 0 {
		t.Error("an empty chunk")
	}
	long := strings.Repeat("x", 4097)
	for _, x := range []struct {
		entry api.Entry
		e     api.Errno
	}{
		{entry(api.MaxNumber+1, long), api.ErrRange}, {entry(math.MinInt, ""), api.ErrRange}, {entry(5, long), api.ErrLine}, {entry(-api.MaxNumber, long[1:]), api.OK}, {entry(5, ""), api.OK}, {entry(4, long), api.ErrOrder}, {entry(4, ""), api.ErrOrder}, {entry(5, long), api.ErrLine}, {entry(5, "again"), api.OK}, {entry(-api.MaxNumber-1, ""), api.ErrRange}, {entry(api.MaxNumber, ""), api.OK},
	} {
		if e := c.Append(x.entry); e != x.e {
			t.Errorf("%d: %d", x.entry.At, e)
		}
	}
	if at, ok := c.Last(); at != api.MaxNumber || !ok || c.Len() != 4 {
		t.Errorf("%d, %v, %d", at, ok, c.Len())
	}
	c = fill(t, counted(31, 1)...)
	if c.Blocks() != 0 || c.Len() != 31 {
		t.Errorf("%d blocks", c.Blocks())
	}
	c.Append(entry(31, "x"))
	if at, ok := c.Last(); c.Blocks() != 1 || c.Len() != 32 || at != 31 || !ok {
		t.Errorf("%d blocks", c.Blocks())
	}
	if e := c.Append(entry(30, "")); e != api.ErrOrder {
		t.Errorf("behind a closed block: %d", e)
	}
	c.Append(entry(32, "x"))
	if at, _ := c.Last(); c.Blocks() != 1 || c.Len() != 33 || at != 32 {
		t.Errorf("%d blocks", c.Blocks())
	}
}

// TestBlock covers P14.3: the bytes of closed blocks.
func TestBlock(t *testing.T) {
	l := counted(70, 3)
	c := fill(t, l...)
	for i := range 2 {
		want, _ := block.Pack(l[32*i : 32*i+32])
		b, ok := c.Block(i)
		if !ok || !bytes.Equal(b, want) {
			t.Errorf("block %d: %x", i, b)
		}
		b[0] ^= 255
		if b, _ = c.Block(i); !bytes.Equal(b, want) {
			t.Error("the bytes are shared")
		}
	}
	first, _ := c.Block(0)
	for _, x := range []struct {
		i, at int
		want  bool
	}{{-1, 0, false}, {2, 0, false}, {math.MaxInt, 0, false}, {0, -1, false}, {0, len(first), false}, {0, math.MinInt, false}, {0, len(first) - 1, true}, {0, 0, true}} {
		if b, ok := c.Block(x.i); ok != (x.i == 0) || !ok && len(b) > 0 {
			t.Errorf("block %d", x.i)
		}
		if ok := c.Turn(x.i, x.at, 0); ok != x.want {
			t.Errorf("byte %d of %d: %v", x.at, x.i, ok)
		}
	}
	if !c.Turn(0, 3, 0xA1) {
		t.Error("no such byte")
	}
	turned, _ := c.Block(0)
	if first[3]^turned[3] != 0xA1 || !bytes.Equal(append(first[:3:3], first[4:]...), append(turned[:3:3], turned[4:]...)) {
		t.Errorf("%x, %x", first, turned)
	}
}

// TestRead covers P14.2 and P14.5: entries of a time, from closed and open blocks.
func TestRead(t *testing.T) {
	random := rand.New(rand.NewSource(14))
	for _, n := range []int{0, 1, 31, 32, 33, 100} {
		l := counted(n, 0)
		at := -20
		for i := range l {
			at += random.Intn(3)
			l[i].At = at
		}
		c := fill(t, l...)
		for range 200 {
			from, to := random.Intn(150)-30, random.Intn(150)-30
			var want []api.Entry
			for _, x := range l {
				if x.At >= from && x.At < to {
					want = append(want, x)
				}
			}
			got, e := c.Read(from, to)
			if e != api.OK || !slices.Equal(got, want) {
				t.Fatalf("%d to %d: %v, %d", from, to, got, e)
			}
			if between := from + random.Intn(40); between <= to {
				one, _ := c.Read(from, between)
				two, _ := c.Read(between, to)
				if !slices.Equal(append(one, two...), want) {
					t.Fatalf("%d to %d to %d", from, between, to)
				}
			}
		}
		if got, e := c.Read(math.MinInt, math.MaxInt); e != api.OK || !slices.Equal(got, l) {
			t.Errorf("%d entries: %d, %d", n, len(got), e)
		}
	}
}

// TestTurn covers P14.2 and P14.6: flipped bits are noticed where the block is read, and only there.
func TestTurn(t *testing.T) {
	c := fill(t, counted(97, 10)...) // blocks at 0 to 310, 320 to 630, 640 to 950
	if !c.Turn(1, 7, 4) {
		t.Fatal("no such byte")
	}
	for _, x := range []struct {
		from, to int
		e        api.Errno
		count    int
	}{{0, 320, api.OK, 32}, {0, 321, api.ErrCorrupt, 0}, {630, 631, api.ErrCorrupt, 0}, {631, 2000, api.OK, 33}, {630, 9999, api.ErrCorrupt, 0}, {400, 400, api.ErrCorrupt, 0}, {500, 400, api.ErrCorrupt, 0}, {700, 300, api.OK, 0}, {955, 2000, api.OK, 1}} {
		if l, e := c.Read(x.from, x.to); e != x.e || len(l) != x.count {
			t.Errorf("%d to %d: %d entries, %d", x.from, x.to, len(l), e)
		}
	}
	c.Turn(1, 7, 4)
	if l, e := c.Read(0, 2000); e != api.OK || !slices.Equal(l, counted(97, 10)) {
		t.Errorf("turned back: %d entries, %d", len(l), e)
	}
	random := rand.New(rand.NewSource(15))
	b, _ := c.Block(0)
	for range 2000 {
		at, mask := random.Intn(len(b)-3), random.Uint32()|1<<random.Intn(32)
		for i := range 4 {
			c.Turn(0, at+i, byte(mask>>(8*i)))
		}
		if l, e := c.Read(5, 6); e != api.ErrCorrupt || len(l) > 0 {
			t.Fatalf("%x at %d: %d", mask, at, e)
		}
		for i := range 4 {
			c.Turn(0, at+i, byte(mask>>(8*i)))
		}
	}
	if l, e := c.Read(0, 2000); e != api.OK || len(l) != 97 {
		t.Errorf("turned back: %d entries, %d", len(l), e)
	}
}

// TestNone covers P14.4: a nil or zero Chunk, and memory.
func TestNone(t *testing.T) {
	for _, c := range []*Chunk{nil, {}} {
		l, e := c.Read(0, 9)
		at, ok := c.Last()
		b, is := c.Block(0)
		if c.Append(entry(math.MinInt, "")) != api.ErrNil || e != api.ErrNil || len(l) > 0 || at != 0 || ok || c.Len() != 0 || c.Blocks() != 0 || is || len(b) > 0 || c.Turn(0, 0, 1) {
			t.Error("a chunk that is none")
		}
	}
	c := fill(t, counted(3, 1)...)
	l, _ := c.Read(0, 9)
	l[0] = entry(7, "changed")
	if again, _ := c.Read(0, 9); !slices.Equal(again, counted(3, 1)) {
		t.Errorf("%v", again)
	}
}
