package bits

import (
	"bytes"
	"math"
	"strings"
	"testing"
)

// pack is the model of the bytes: a text of digits, eight a byte, filled up with noughts.
func pack(digits string) []byte {
	for len(digits)%8 != 0 {
		digits += "0"
	}
	b := make([]byte, len(digits)/8)
	for i, d := range digits {
		if d == '1' {
			b[i/8] += 1 << (7 - i%8)
		}
	}
	return b
}

// lowest is the model of Put: the n lowest digits of v in two's complement.
func lowest(v, n int) string {
	text := ""
	for u := uint64(int64(v)); len(text) < n; u /= 2 {
		text = string(rune('0'+u%2)) + text
	}
	return text
}

func wantWritten(t *testing.T, w *Writer, digits string) {
	t.Helper()
	if w.Len() != len(digits) {
		t.Fatalf("Len is %d, want %d", w.Len(), len(digits))
	}
	if got, want := w.Bytes(), pack(digits); !bytes.Equal(got, want) {
		t.Fatalf("Bytes are %x, want %x", got, want)
	}
}

// wantLeft looks at a reader without taking anything.
func wantLeft(t *testing.T, r *Reader, digits string) {
	t.Helper()
	if r.Left() != len(digits) {
		t.Fatalf("Left is %d, want %d", r.Left(), len(digits))
	}
	if got, want := r.Rest(), !strings.Contains(digits, "1"); got != want {
		t.Fatalf("Rest is %v, want %v", got, want)
	}
}

// wantRead takes all that is left, digit by digit.
func wantRead(t *testing.T, r *Reader, digits string) {
	t.Helper()
	wantLeft(t, r, digits)
	for i, d := range digits {
		if v, ok := r.Get(1); !ok || v != int(d-'0') {
			t.Fatalf("digit %d is %d, %v, want %c", i, v, ok, d)
		}
	}
	wantLeft(t, r, "")
}

var numbers = []int{0, 1, 2, 5, 127, 128, 1<<31 - 1, 1 << 61, 1<<62 - 1, 1 << 62, math.MaxInt, -1, -2, -128, -1 << 23, -1 << 61, -1 << 62, math.MinInt, 0x2aaaaaaaaaaaaaaa, -0x2aaaaaaaaaaaaaaa}

func TestNewWriterHasNoDigits(t *testing.T) {
	wantWritten(t, NewWriter(), "")
}

func TestPutOfTheDocument(t *testing.T) {
	w := NewWriter()
	if !w.Put(5, 4) || !bytes.Equal(w.Bytes(), []byte{0x50}) {
		t.Errorf("%x", w.Bytes())
	}
}

func TestPutAllWidths(t *testing.T) {
	for _, v := range numbers {
		for n := 0; n <= 62; n++ {
			for ahead := 0; ahead < 9; ahead++ {
				w := NewWriter()
				w.Put(-1, ahead)
				if !w.Put(v, n) || !w.Put(1, 2) {
					t.Fatal(v, n)
				}
				wantWritten(t, w, strings.Repeat("1", ahead)+lowest(v, n)+"01")
			}
		}
	}
}

func TestPutNothing(t *testing.T) {
	w := NewWriter()
	for _, v := range numbers {
		if !w.Put(v, 0) {
			t.Fatal(v)
		}
		wantWritten(t, w, "")
	}
}

func TestWriteOnes(t *testing.T) {
	for n := 0; n <= 1024; n++ {
		w := NewWriter()
		if !w.Ones(n) {
			t.Fatal(n)
		}
		wantWritten(t, w, strings.Repeat("1", n)+"0")
	}
}

func TestWriteBehindOneAnother(t *testing.T) {
	w := NewWriter()
	if !w.Put(1, 1) || !w.Ones(0) || !w.Ones(9) || !w.Put(-3, 3) || !w.Ones(1) {
		t.Fatal("false")
	}
	wantWritten(t, w, "1"+"0"+"1111111110"+"101"+"10")
}

func TestLastByteIsFilledWithNoughts(t *testing.T) {
	w := NewWriter()
	for n := range 40 {
		wantWritten(t, w, strings.Repeat("1", n))
		w.Put(1, 1)
	}
}

func TestWriteWrongNumbers(t *testing.T) {
	for _, begin := range []string{"", "1", "1011011", "10110111", "101101110"} {
		w := NewWriter()
		for _, d := range begin {
			w.Put(int(d-'0'), 1)
		}
		for _, n := range []int{-1, 63, 64, -62, 1025, math.MinInt, math.MaxInt} {
			if w.Put(-1, n) {
				t.Errorf("Put of %d", n)
			}
			wantWritten(t, w, begin)
		}
		for _, n := range []int{-1, 1025, -1024, math.MinInt, math.MaxInt} {
			if w.Ones(n) {
				t.Errorf("Ones of %d", n)
			}
			wantWritten(t, w, begin)
		}
		w.Put(2, 2)
		wantWritten(t, w, begin+"10")
	}
}

func TestWritersShareNothing(t *testing.T) {
	v, w := NewWriter(), NewWriter()
	v.Put(3, 3)
	w.Put(5, 5)
	early := w.Bytes()
	w.Put(7, 3)
	if !bytes.Equal(early, []byte{0x28}) {
		t.Errorf("changed afterwards: %x", early)
	}
	wantWritten(t, v, "011")
	late := append(w.Bytes(), 0xff)
	late[0] = 0xff
	wantWritten(t, w, "00101111")
	w.Put(1, 4)
	wantWritten(t, w, "001011110001")
	if !bytes.Equal(late, []byte{0xff, 0xff}) {
		t.Errorf("changed afterwards: %x", late)
	}
}

func TestNewReader(t *testing.T) {
	for _, digits := range []string{"00000000", "10000000", "00000001", "0101111011000000", "111111111111111111111111"} {
		wantRead(t, NewReader(pack(digits)), digits)
	}
}

func TestReaderOfNothing(t *testing.T) {
	for _, b := range [][]byte{nil, {}, []byte{0xff}[:0]} {
		r := NewReader(b)
		wantLeft(t, r, "")
		if v, ok := r.Get(0); !ok || v != 0 {
			t.Error(v, ok)
		}
		if v, ok := r.Ones(0); !ok || v != 0 {
			t.Error(v, ok)
		}
		if v, ok := r.Get(1); ok || v != 0 {
			t.Error(v, ok)
		}
		if v, ok := r.Ones(1); ok || v != 0 {
			t.Error(v, ok)
		}
		wantLeft(t, r, "")
	}
}

func TestGetAllWidths(t *testing.T) {
	digits := strings.Repeat("1", 8) + lowest(-0x2aaaaaaaaaaaaaab, 62) + strings.Repeat("1", 62) + "0100"
	for ahead := 0; ahead <= len(digits); ahead++ {
		for n := 0; n <= 62 && ahead+n <= len(digits); n++ {
			r := NewReader(pack(digits))
			for range ahead {
				r.Get(1)
			}
			want := 0
			for _, d := range digits[ahead : ahead+n] {
				want = want*2 + int(d-'0')
			}
			if v, ok := r.Get(n); !ok || v != want {
				t.Fatalf("%d digits behind %d: %d, %v, want %d", n, ahead, v, ok, want)
			}
			wantLeft(t, r, digits[ahead+n:])
		}
	}
}

func TestGetWrongNumbers(t *testing.T) {
	digits := "11" + strings.Repeat("01", 39)
	r := NewReader(pack(digits))
	if v, ok := r.Get(3); !ok || v != 6 {
		t.Fatal(v, ok)
	}
	for _, n := range []int{-1, 63, 64, -62, math.MinInt, math.MaxInt} {
		if v, ok := r.Get(n); ok || v != 0 {
			t.Error(n, v, ok)
		}
		wantLeft(t, r, digits[3:])
	}
	wantRead(t, r, digits[3:])
}

func TestGetMoreThanIsLeft(t *testing.T) {
	digits := "10110111" + "11111111"
	for ahead := 0; ahead <= len(digits); ahead++ {
		r := NewReader(pack(digits))
		r.Get(ahead)
		for n := len(digits) - ahead + 1; n <= 62; n++ {
			if v, ok := r.Get(n); ok || v != 0 {
				t.Error(ahead, n, v, ok)
			}
		}
		wantRead(t, r, digits[ahead:])
	}
}

func TestReadOnes(t *testing.T) {
	for ahead := 0; ahead < 9; ahead++ {
		for n := range 20 {
			digits := strings.Repeat("0", ahead) + strings.Repeat("1", n) + "01"
			digits += strings.Repeat("0", (8-len(digits)%8)%8)
			for most := range 24 {
				r := NewReader(pack(digits))
				r.Get(ahead)
				want, taken := n, n+1
				if n >= most {
					want, taken = most, most
				}
				if v, ok := r.Ones(most); !ok || v != want {
					t.Fatalf("%d ones, most %d: %d, %v", n, most, v, ok)
				}
				wantRead(t, r, digits[ahead+taken:])
			}
		}
	}
}

func TestReadOnesUpToTheGreatestMost(t *testing.T) {
	for _, c := range []struct{ ones, most, want, taken int }{
		{1023, 1024, 1023, 1024},
		{1024, 1024, 1024, 1024},
		{1025, 1024, 1024, 1024},
		{1023, 1023, 1023, 1023},
		{1022, 1023, 1022, 1023},
	} {
		digits := strings.Repeat("1", c.ones) + "01"
		digits += strings.Repeat("0", (8-len(digits)%8)%8)
		r := NewReader(pack(digits))
		if v, ok := r.Ones(c.most); !ok || v != c.want {
			t.Error(c, v, ok)
		}
		wantRead(t, r, digits[c.taken:])
	}
}

func TestReadOnesWhereTheDigitsEnd(t *testing.T) {
	for ahead := range 17 {
		left := 16 - ahead
		digits := strings.Repeat("0", ahead) + strings.Repeat("1", left)
		r := NewReader(pack(digits))
		r.Get(ahead)
		for _, most := range []int{left + 1, left + 2, 1024} {
			if v, ok := r.Ones(most); ok || v != 0 {
				t.Error(ahead, most, v, ok)
			}
			wantLeft(t, r, digits[ahead:])
		}
		if v, ok := r.Ones(left); !ok || v != left {
			t.Error(ahead, v, ok)
		}
		wantLeft(t, r, "")
	}
}

func TestReadOnesWhereTheNoughtIsTheLast(t *testing.T) {
	r := NewReader([]byte{0xfe})
	if v, ok := r.Ones(1024); !ok || v != 7 {
		t.Error(v, ok)
	}
	wantLeft(t, r, "")
}

func TestReadOnesWrongNumbers(t *testing.T) {
	digits := "1110" + strings.Repeat("1", 1100)
	r := NewReader(pack(digits))
	r.Get(1)
	for _, most := range []int{-1, 1025, -1024, math.MinInt, math.MaxInt} {
		if v, ok := r.Ones(most); ok || v != 0 {
			t.Error(most, v, ok)
		}
		wantLeft(t, r, digits[1:])
	}
	wantRead(t, r, digits[1:])
}

func TestRest(t *testing.T) {
	for one := range 24 {
		b := make([]byte, 3)
		b[one/8] = 0x80 >> (one % 8)
		r := NewReader(b)
		for at := 0; at <= 24; at++ {
			if r.Rest() != (at > one) || r.Left() != 24-at {
				t.Errorf("one at %d, at %d: %v, %d", one, at, r.Rest(), r.Left())
			}
			r.Get(1)
		}
	}
}

func TestReaderSharesNothing(t *testing.T) {
	whole := []byte{0x5e, 0xc0, 0xff, 0xff}
	r, s := NewReader(whole[:2]), NewReader(whole[:2])
	wantRead(t, s, "0101111011000000")
	if !bytes.Equal(whole, []byte{0x5e, 0xc0, 0xff, 0xff}) {
		t.Errorf("changed: %x", whole)
	}
	whole[0], whole[1] = 0, 0
	wantRead(t, r, "0101111011000000")
}

func TestWhatIsWrittenIsRead(t *testing.T) {
	w := NewWriter()
	for n := 0; n <= 62; n++ {
		for i, v := range numbers {
			w.Put(v, n)
			w.Ones((n*len(numbers) + i) % 1025)
		}
	}
	r := NewReader(w.Bytes())
	for n := 0; n <= 62; n++ {
		for i, v := range numbers {
			if got, ok := r.Get(n); !ok || got != v&(1<<n-1) {
				t.Fatalf("%d of %d digits is %d, %v", v, n, got, ok)
			}
			want := (n*len(numbers) + i) % 1025
			if got, ok := r.Ones(1024); !ok || got != want {
				t.Fatalf("%d ones are %d, %v", want, got, ok)
			}
			if want == 1024 {
				// The nought behind as many ones was not asked for.
				r.Get(1)
			}
		}
	}
	if !r.Rest() || r.Left() >= 8 {
		t.Error(r.Left())
	}
}
