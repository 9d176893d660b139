package crc

import (
	"bytes"
	"slices"
	"strings"
	"sync"
	"testing"
)

const allOnes = 0xFFFFFFFF

// added is the model of Add: the sum as a list of digits, the greatest first, as the document says it.
func added(sum uint32, b []byte) uint32 {
	digits := split(sum)
	poly := split(0x04C11DB7)
	for _, c := range b {
		for i := range 8 {
			digits[i] ^= c >> (7 - i) & 1
		}
		for range 8 {
			out := digits[0]
			digits = append(digits[1:], 0)
			for i := range digits {
				digits[i] ^= out & poly[i]
			}
		}
	}
	return joined(digits)
}

func split(sum uint32) []byte {
	var digits []byte
	for i := 31; i >= 0; i-- {
		digits = append(digits, byte(sum>>i&1))
	}
	return digits
}

func joined(digits []byte) uint32 {
	sum := uint32(0)
	for _, d := range digits {
		sum = 2*sum + uint32(d)
	}
	return sum
}

// mixed answers n bytes without a plain order, others for another seed.
func mixed(n int, seed uint32) []byte {
	b := make([]byte, n)
	for i := range b {
		seed = seed*1664525 + 1013904223
		b[i] = byte(seed >> 24)
	}
	return b
}

func rows() [][]byte {
	l := [][]byte{
		{0}, {1}, {0x80}, {0xff}, {0, 0}, {0xff, 0xff}, {0, 1}, {1, 0},
		{0xff, 0xff, 0xff, 0xff}, {0, 0, 0, 0},
		[]byte("123456789"), bytes.Repeat([]byte{0}, 40), bytes.Repeat([]byte{0xff}, 40),
	}
	for n := range 140 {
		l = append(l, mixed(n, uint32(n)))
	}
	return l
}

func someSums() []uint32 {
	return []uint32{0, 1, 0x80000000, 0x01000000, 0xff000000, 0x00ffffff, 0x04C11DB7, 0x12345678, 0xfffffffe, allOnes}
}

// withSum answers the row with its sum behind it.
func withSum(c *Table, row []byte) []byte {
	s := c.Sum(row)
	return append(slices.Clone(row), byte(s>>24), byte(s>>16), byte(s>>8), byte(s))
}

// holds answers whether the last four bytes are the sum of those ahead.
func holds(c *Table, b []byte) bool {
	row := b[:len(b)-4]
	return bytes.Equal(withSum(c, row), b)
}

// turn turns those digits of b, from the digit at on, that are ones in the text.
func turn(b []byte, at int, text string) []byte {
	turned := slices.Clone(b)
	for i, d := range text {
		if d == '1' {
			turned[(at+i)/8] ^= 0x80 >> ((at + i) % 8)
		}
	}
	return turned
}

// bursts answers texts of n digits, a one at both ends: all there are where n is small, some of them else.
func bursts(n int) []string {
	if n == 1 {
		return []string{"1"}
	}
	var l []string
	if n <= 10 {
		for m := range 1 << (n - 2) {
			l = append(l, "1"+text(uint64(m), n-2)+"1")
		}
		return l
	}
	for _, m := range []uint64{0, 1<<62 - 1, 0x1555555555555555, 0x2aaaaaaaaaaaaaaa, 0x04C11DB7, 0x82608EDB, 0x123456789abcdef} {
		l = append(l, "1"+text(m, n-2)+"1")
	}
	return l
}

// text answers the n lowest digits of m.
func text(m uint64, n int) string {
	var s strings.Builder
	for i := n - 1; i >= 0; i-- {
		s.WriteByte('0' + byte(m>>i&1))
	}
	return s.String()
}

func TestSumsKnownElsewhere(t *testing.T) {
	c := New()
	for _, k := range []struct {
		row string
		sum uint32
	}{
		{"", 0xFFFFFFFF},
		{"123456789", 0x0376E6E7},
		{"\xff\xff\xff\xff", 0},
		{"\x00", 0x4E08BFB4},
	} {
		if got := c.Sum([]byte(k.row)); got != k.sum {
			t.Errorf("%q: %x, want %x", k.row, got, k.sum)
		}
		if got := Slow([]byte(k.row)); got != k.sum {
			t.Errorf("%q slowly: %x, want %x", k.row, got, k.sum)
		}
	}
}

func TestSumAndSlow(t *testing.T) {
	c := New()
	for _, row := range rows() {
		want := added(allOnes, row)
		if got := c.Sum(row); got != want {
			t.Errorf("%x: %x, want %x", row, got, want)
		}
		if got := New().Sum(row); got != want {
			t.Errorf("%x with a new table: %x, want %x", row, got, want)
		}
		if got := Slow(row); got != want {
			t.Errorf("%x slowly: %x, want %x", row, got, want)
		}
	}
}

func TestAdd(t *testing.T) {
	c := New()
	for _, sum := range someSums() {
		for _, row := range rows() {
			if got, want := c.Add(sum, row), added(sum, row); got != want {
				t.Fatalf("%x and %x: %x, want %x", sum, row, got, want)
			}
		}
	}
}

func TestAddOfEachByte(t *testing.T) {
	c := New()
	for i := range 256 {
		b := []byte{byte(i)}
		for _, sum := range someSums() {
			if got, want := c.Add(sum, b), added(sum, b); got != want {
				t.Fatalf("%x and %x: %x, want %x", sum, b, got, want)
			}
		}
		if got, want := c.Sum(b), added(allOnes, b); got != want || Slow(b) != want {
			t.Fatalf("%x: %x, slowly %x, want %x", b, got, Slow(b), want)
		}
	}
}

func TestAddByHand(t *testing.T) {
	c := New()
	for _, k := range []struct {
		sum  uint32
		b    byte
		want uint32
	}{
		{0, 0, 0},
		{0, 1, 0x04C11DB7},
		{0x01000000, 0, 0x04C11DB7},
		{0x01000000, 1, 0},
		{0, 2, 0x09823B6E},
		{0x00000001, 0, 0x00000100},
		{0x00abcdef, 0, 0xabcdef00},
		{0xff000000, 0xff, 0},
		{allOnes, 0xff, 0xffffff00},
	} {
		if got := c.Add(k.sum, []byte{k.b}); got != k.want {
			t.Errorf("%x and %x: %x, want %x", k.sum, k.b, got, k.want)
		}
	}
}

func TestAddOfNothing(t *testing.T) {
	for _, c := range []*Table{New(), used()} {
		for _, sum := range someSums() {
			for _, b := range [][]byte{nil, {}, []byte("abc")[:0]} {
				if got := c.Add(sum, b); got != sum {
					t.Errorf("%x: %x", sum, got)
				}
			}
		}
		if c.Sum(nil) != allOnes || c.Sum([]byte{}) != allOnes {
			t.Error("Sum of nothing")
		}
	}
	if Slow(nil) != allOnes || Slow([]byte{}) != allOnes {
		t.Error("Slow of nothing")
	}
}

func used() *Table {
	c := New()
	c.Sum([]byte{7})
	return c
}

func TestAddInParts(t *testing.T) {
	c := New()
	row := mixed(60, 3)
	for _, sum := range someSums() {
		whole := c.Add(sum, row)
		for i := range len(row) + 1 {
			for j := i; j <= len(row); j++ {
				if got := c.Add(c.Add(c.Add(sum, row[:i]), row[i:j]), row[j:]); got != whole {
					t.Fatalf("%x parted at %d and %d: %x, want %x", sum, i, j, got, whole)
				}
			}
		}
	}
	if c.Add(c.Sum(row[:20]), row[20:]) != c.Sum(row) || c.Sum(row) != Slow(row) {
		t.Error("Add behind Sum")
	}
}

func TestMade(t *testing.T) {
	for _, first := range []func(*Table){
		func(c *Table) { c.Sum([]byte{0}) },
		func(c *Table) { c.Sum(mixed(100, 1)) },
		func(c *Table) { c.Add(0, []byte{0}) },
		func(c *Table) { c.Add(allOnes, mixed(100, 1)) },
	} {
		c, other := New(), New()
		if c.Made() {
			t.Error("made ahead of the first call")
		}
		c.Sum(nil)
		c.Sum([]byte{})
		c.Sum([]byte{1, 2}[:0])
		c.Add(0, nil)
		c.Add(allOnes, []byte{})
		Slow(mixed(100, 2))
		if c.Made() || c.Made() {
			t.Error("made by calls without a byte, or by Slow")
		}
		first(c)
		if !c.Made() || !c.Made() {
			t.Error("not made by the first call with a byte")
		}
		if other.Made() || New().Made() {
			t.Error("made by another object's call")
		}
		c.Sum(nil)
		c.Add(3, []byte{4})
		if !c.Made() {
			t.Error("no longer made")
		}
		other.Add(1, []byte{2})
		if !other.Made() || New().Made() {
			t.Error("each object has its own")
		}
	}
}

func TestMadeOnce(t *testing.T) {
	c := used()
	kept := c.rows
	c.rows[5] = ^c.rows[5]
	c.Sum([]byte{1, 2, 3})
	c.Add(9, []byte{1})
	if c.rows[5] != ^kept[5] {
		t.Error("made again")
	}
}

func TestFirstUseByMany(t *testing.T) {
	c := New()
	row := mixed(50, 9)
	want := added(allOnes, row)
	got := make([]uint32, 32)
	var all sync.WaitGroup
	for i := range got {
		all.Go(func() {
			c.Made()
			got[i] = c.Sum(row)
		})
	}
	all.Wait()
	for i, sum := range got {
		if sum != want {
			t.Errorf("%d: %x, want %x", i, sum, want)
		}
	}
	if !c.Made() {
		t.Error("not made")
	}
}

func TestBytesStayAsTheyAre(t *testing.T) {
	c := New()
	long := mixed(30, 4)
	kept := slices.Clone(long)
	part := long[:20]
	want := added(allOnes, part)
	if c.Sum(part) != want || Slow(part) != want || c.Add(allOnes, part) != want {
		t.Error("what lies behind the length was read")
	}
	if !bytes.Equal(long, kept) {
		t.Error("bytes were changed")
	}
	long[3]++
	if c.Sum(kept[:20]) != want || c.Add(allOnes, kept[:20]) != want {
		t.Error("bytes were kept")
	}
}

func TestBurstsInRows(t *testing.T) {
	c := New()
	for _, row := range [][]byte{make([]byte, 6), bytes.Repeat([]byte{0xff}, 6), mixed(6, 5)} {
		want := c.Sum(row)
		for n := 1; n <= 32; n++ {
			for _, burst := range bursts(n) {
				for at := 0; at+n <= 8*len(row); at++ {
					if turned := turn(row, at, burst); c.Sum(turned) == want {
						t.Fatalf("%x and %x have one sum", row, turned)
					}
				}
			}
		}
	}
}

func TestBurstsInRowsWithTheirSums(t *testing.T) {
	c := New()
	for _, row := range [][]byte{nil, {0}, {0xff}, {0xff, 0xff, 0xff, 0xff}, mixed(5, 6), mixed(7, 7)} {
		b := withSum(c, row)
		if !holds(c, b) {
			t.Fatalf("%x", b)
		}
		for n := 1; n <= 32; n++ {
			for _, burst := range bursts(n) {
				for at := 0; at+n <= 8*len(b); at++ {
					if turned := turn(b, at, burst); holds(c, turned) {
						t.Fatalf("%x with %s turned from %d on still holds", b, burst, at)
					}
				}
			}
		}
	}
}

func TestBurstsInASector(t *testing.T) {
	c := New()
	b := withSum(c, mixed(124, 8))
	for _, n := range []int{1, 2, 7, 8, 9, 15, 16, 17, 31, 32} {
		for _, burst := range bursts(n) {
			for at := 0; at+n <= 8*len(b); at++ {
				if holds(c, turn(b, at, burst)) {
					t.Fatalf("%s turned from %d on still holds", burst, at)
				}
			}
		}
	}
}

// A burst of 33 digits that is the polynomial itself is the first that may stay unseen.
func TestThePolynomialStaysUnseen(t *testing.T) {
	c := New()
	b := withSum(c, mixed(20, 10))
	for at := 0; at+33 <= 8*len(b); at++ {
		if !holds(c, turn(b, at, "1"+text(0x04C11DB7, 32))) {
			t.Errorf("from %d on", at)
		}
	}
}
