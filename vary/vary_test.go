package vary

import (
	"bytes"
	"encoding/binary"
	"math"
	"math/rand"
	"strings"
	"testing"

	"driftnet/api"
)

// TestEncode covers P6.1: encodings and what has none.
func TestEncode(t *testing.T) {
	for n, want := range map[int][]byte{0: {0}, 127: {0x7f}, 128: {0x80, 1}, 300: {0xac, 2}, 16384: {0x80, 0x80, 1}} {
		if b, e := U(n); e != api.OK || !bytes.Equal(b, want) {
			t.Errorf("U(%d): %x, %d", n, b, e)
		}
	}
	for n, want := range map[int][]byte{0: {0}, -1: {1}, 1: {2}, -64: {0x7f}, 64: {0x80, 1}} {
		if b, e := S(n); e != api.OK || !bytes.Equal(b, want) {
			t.Errorf("S(%d): %x, %d", n, b, e)
		}
	}
	for _, n := range []int{1 << 20, 1<<49 - 1, 1 << 49, mostUnsigned} {
		if b, e := U(n); e != api.OK || !bytes.Equal(b, binary.AppendUvarint(nil, uint64(n))) {
			t.Errorf("U(%d): %x, %d", n, b, e)
		}
	}
	for _, n := range []int{-1, mostUnsigned + 1, math.MinInt, math.MaxInt} {
		if b, e := U(n); e != api.ErrRange || len(b) > 0 {
			t.Errorf("U(%d): %x, %d", n, b, e)
		}
	}
	for _, n := range []int{-api.MaxNumber - 1, api.MaxNumber + 1, math.MinInt, math.MaxInt} {
		if b, e := S(n); e != api.ErrRange || len(b) > 0 {
			t.Errorf("S(%d): %x, %d", n, b, e)
		}
		if b, e := Put(1, n, 2); e != api.ErrRange || len(b) > 0 {
			t.Errorf("Put(%d): %x, %d", n, b, e)
		}
	}
	if b, e := Put(-1, 64); e != api.OK || !bytes.Equal(b, []byte{1, 0x80, 1}) {
		t.Errorf("%x, %d", b, e)
	}
	if b, e := Put(); e != api.OK || len(b) > 0 {
		t.Errorf("%x, %d", b, e)
	}
	long := strings.Repeat("x", 65535)
	if b, e := Text(long); e != api.OK || string(b) != "\xff\xff\x03"+long {
		t.Errorf("%d bytes, %d", len(b), e)
	}
	if b, e := Text(long + "x"); e != api.ErrLimit || len(b) > 0 {
		t.Errorf("%d bytes, %d", len(b), e)
	}
	if b, e := Text("a\x00"); e != api.OK || string(b) != "\x02a\x00" {
		t.Errorf("%x, %d", b, e)
	}
}

// TestErrors covers P6.2: the errors of the bytes that remain.
func TestErrors(t *testing.T) {
	high := strings.Repeat("\xff", 7)
	for s, want := range map[string]api.Errno{
		"": api.ErrTrunc, "\x80": api.ErrTrunc, high: api.ErrTrunc, high + "\xff": api.ErrSyntax, high + "\xff\x01": api.ErrSyntax, high + "\xff\xff\xff": api.ErrSyntax,
		"\x80\x00": api.ErrSyntax, "\xff\x80\x00": api.ErrSyntax, "\x00": api.OK, high + "\x1f": api.ErrSyntax, "\xfe" + high[1:] + "\x1f": api.OK, high + "\x20": api.ErrSyntax, high + "\x7f": api.ErrSyntax, high + "\x00": api.ErrSyntax,
	} {
		r := New([]byte(s))
		n := r.U()
		if r.Err() != want || want != api.OK && (n != 0 || r.Left() != 0) {
			t.Errorf("U of %x: %d, %d", s, n, r.Err())
		}
		q := New([]byte(s))
		if n := q.S(); q.Err() != want || want != api.OK && n != 0 {
			t.Errorf("S of %x: %d, %d", s, n, q.Err())
		}
	}
	for _, c := range []struct {
		s    string
		most int
		want string
		e    api.Errno
	}{{"\x02abc", 2, "ab", api.OK}, {"\x02abc", 9, "ab", api.OK}, {"\x02abc", 1, "", api.ErrLimit}, {"\x02a", 1, "", api.ErrLimit}, {"\x02a", 2, "", api.ErrTrunc}, {"\x00", 0, "", api.OK}, {"\x00", -1, "", api.ErrLimit}, {"\x80", 5, "", api.ErrTrunc}, {"\x80\x00", 5, "", api.ErrSyntax}, {"\xfe" + high[1:] + "\x1f", math.MaxInt, "", api.ErrTrunc}} {
		r := New([]byte(c.s))
		if got := r.Text(c.most); got != c.want || r.Err() != c.e {
			t.Errorf("Text(%d) of %x: %q, %d", c.most, c.s, got, r.Err())
		}
	}
}

// TestSticky covers P6.2 and P6.3: the first error remains, and all later calls return nothing.
func TestSticky(t *testing.T) {
	r := New([]byte{5, 2, 'a', 'b', 3, 'x', 9})
	if r.Left() != 7 || r.U() != 5 || r.Left() != 6 || r.Text(9) != "ab" || r.Left() != 3 || r.Err() != api.OK {
		t.Errorf("%d left, %d", r.Left(), r.Err())
	}
	if r.Text(9) != "" || r.Err() != api.ErrTrunc || r.Left() != 0 {
		t.Errorf("%d left, %d", r.Left(), r.Err())
	}
	if r.U() != 0 || r.S() != 0 || r.Text(-1) != "" || r.Err() != api.ErrTrunc {
		t.Errorf("%d", r.Err())
	}
	for _, r := range []*Reader{nil, {}} {
		if r.U() != 0 || r.S() != 0 || r.Text(3) != "" || r.Left() != 0 || r.Err() != api.ErrNil {
			t.Errorf("%d", r.Err())
		}
	}
	if r := New(nil); r.Err() != api.OK || r.Left() != 0 || r.U() != 0 || r.Err() != api.ErrTrunc {
		t.Errorf("%d", r.Err())
	}
}

// TestMemory covers P6.4: the bytes of a reader are its own.
func TestMemory(t *testing.T) {
	b := []byte{1, 2, 3}
	r := New(b[:2])
	b[0], b[1] = 9, 9
	if r.U() != 1 || r.U() != 2 || r.Left() != 0 || b[2] != 3 {
		t.Error("the argument was retained")
	}
	x, _ := U(5)
	y, _ := U(5)
	x[0] = 0
	if y[0] != 5 {
		t.Error("results share memory")
	}
}

// TestRoundTrip covers P6.5 and P6.6: decoding returns what was encoded, and nothing else is accepted.
func TestRoundTrip(t *testing.T) {
	random := rand.New(rand.NewSource(6))
	for range 2000 {
		u := int(random.Int63n(mostUnsigned+1) >> random.Intn(54))
		s := int(random.Int63n(mostUnsigned+1))>>random.Intn(54) - random.Intn(2)*api.MaxNumber
		if s > api.MaxNumber || s < -api.MaxNumber {
			continue
		}
		text := strings.Repeat("é", random.Intn(200))
		a, _ := U(u)
		b, _ := S(s)
		c, _ := Text(text)
		r := New(append(append(append(append([]byte{}, a...), b...), c...), 0xff, 0))
		if x, y, z := r.U(), r.S(), r.Text(400); x != u || y != s || z != text || r.Left() != 2 {
			t.Fatalf("%d, %d: %d, %d, %d left", u, s, x, y, r.Left())
		}
		closer, _ := S(s / 2)
		if len(closer) > len(b) {
			t.Errorf("%d takes more bytes than %d", s/2, s)
		}
	}
	for _, s := range []int{-api.MaxNumber, api.MaxNumber, 0, -1} {
		b, e := S(s)
		if got := New(b).S(); e != api.OK || got != s {
			t.Errorf("%d: %d, %d", s, got, e)
		}
	}
	for range 3000 {
		b := make([]byte, 1+random.Intn(9))
		for i := range b {
			b[i] = byte(random.Intn(256)) | byte(random.Intn(2)*128)
		}
		r := New(b)
		n := r.U()
		if r.Err() != api.OK {
			continue
		}
		if again, e := U(n); e != api.OK || !bytes.HasPrefix(b, again) || len(b)-r.Left() != len(again) {
			t.Errorf("%x: %d, %x", b, n, again)
		}
	}
}
