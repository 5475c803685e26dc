package seal

import (
	"bytes"
	"hash/crc32"
	"math/rand"
	"testing"
)

func noise(random *rand.Rand, size int) []byte {
	b := make([]byte, size)
	random.Read(b)
	return b
}

// TestOf covers P7.1 and P7.4: checksums of the whole and of pieces.
func TestOf(t *testing.T) {
	if Of() != 0 || Of(nil) != 0 || Of([]byte("123456789")) != 0xCBF43926 || Of([]byte("1234"), nil, []byte("56789")) != 0xCBF43926 {
		t.Error("known checksums")
	}
	random := rand.New(rand.NewSource(7))
	for size := range 300 {
		b := noise(random, size)
		at := random.Intn(size + 1)
		if sum := Of(b); sum != crc32.ChecksumIEEE(b) || sum != Of(b[:at], b[at:]) || sum != On(Of(b[:at]), b[at:]) || On(sum, nil) != sum {
			t.Errorf("%x: %x", b, sum)
		}
		if sum := random.Uint32(); On(sum, b) != crc32.Update(sum, crc32.IEEETable, b) {
			t.Errorf("on from %x", sum)
		}
	}
	if !bytes.Equal(Row(258), []byte{2, 1, 0, 0}) || !bytes.Equal(Row(0xA1B2C3D4), []byte{0xD4, 0xC3, 0xB2, 0xA1}) {
		t.Error("rows")
	}
}

// TestCut covers P7.2 and P7.6: what is sealed, and what is not.
func TestCut(t *testing.T) {
	if !bytes.Equal(Put(nil), []byte{0, 0, 0, 0}) || !bytes.Equal(Put([]byte("123456789")), []byte("123456789\x26\x39\xF4\xCB")) {
		t.Error("Put")
	}
	for _, b := range [][]byte{nil, {}, {0}, {0, 0, 0}, {0, 0, 0, 1}, {1, 0, 0, 0}, []byte("123456789\xCB\xF4\x39\x26")} {
		if got, ok := Cut(b); ok || len(got) > 0 {
			t.Errorf("%x: %x", b, got)
		}
	}
	random := rand.New(rand.NewSource(8))
	for size := range 100 {
		b := noise(random, size)
		if got, ok := Cut(Put(b)); !ok || !bytes.Equal(got, b) {
			t.Errorf("%x: %x", b, got)
		}
	}
}

// TestMemory covers P7.3: arguments are only read, results are new.
func TestMemory(t *testing.T) {
	whole := []byte("abcdefgh")
	sealed := Put(whole[:3])
	sealed[0] = 'x'
	if string(whole) != "abcdefgh" {
		t.Errorf("%s", whole)
	}
	sealed[0] = 'a'
	inside, _ := Cut(sealed)
	inside[0] = 'y'
	_ = append(inside, 'z')
	if _, ok := Cut(sealed); !ok {
		t.Error("the sealed bytes were changed")
	}
	row := Row(5)
	row[0] = 1
	if Row(5)[0] != 5 {
		t.Error("rows share memory")
	}
}

// TestBursts covers P7.5: flipped bits within 32 consecutive ones are always noticed.
func TestBursts(t *testing.T) {
	random := rand.New(rand.NewSource(9))
	for range 20000 {
		b := Put(noise(random, random.Intn(40)))
		first, mask := random.Intn(8*len(b)), random.Uint32()|1
		for i := range 32 {
			if at := first + i; mask>>i&1 == 1 && at < 8*len(b) {
				b[at/8] ^= 1 << (at % 8)
			}
		}
		if _, ok := Cut(b); ok {
			t.Fatalf("%x at bit %d is not noticed", mask, first)
		}
	}
}

// TestChange holds the table that is filled once against the function by which sums are worked out, and both against the known table.
func TestChange(t *testing.T) {
	for range 2 {
		for i := range 256 {
			x := byte(i)
			if got := Change(x); got != shifted(x) || got != crc32.IEEETable[x] {
				t.Errorf("%d: %x, %x", x, got, shifted(x))
			}
		}
	}
}

// TestTable checks who reads the table: Change does; Of, On, Put and Cut answer the same whatever is in it.
func TestTable(t *testing.T) {
	Change(0)
	right := table
	defer func() { table = right }()
	for i := range table {
		table[i] = ^right[i]
	}
	if Change(5) != ^right[5] || Change(255) != ^right[255] {
		t.Error("Change does not read the table")
	}
	b := []byte("123456789")
	if Of(b) != 0xCBF43926 || On(Of(b[:4]), b[4:]) != 0xCBF43926 || !bytes.Equal(Put(b), []byte("123456789\x26\x39\xF4\xCB")) {
		t.Error("sums read the table")
	}
	if got, ok := Cut(Put(b)); !ok || !bytes.Equal(got, b) || !bytes.Equal(Row(258), []byte{2, 1, 0, 0}) {
		t.Error("Cut or Row reads the table")
	}
}
