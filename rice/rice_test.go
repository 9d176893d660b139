package rice

import (
	"bytes"
	"math"
	"slices"
	"strconv"
	"strings"
	"testing"

	"overdub/api"
	"overdub/bits"
)

// coded is the model of a number's digits, as the document says them.
func coded(z, k int) string {
	power := 1
	for range k {
		power *= 2
	}
	if z/power >= api.Escape {
		return strings.Repeat("1", api.Escape) + digits(z, 32)
	}
	return strings.Repeat("1", z/power) + "0" + digits(z%power, k)
}

// digits answers v, which has at most n of them, as a text of n.
func digits(v, n int) string {
	if n == 0 {
		return ""
	}
	text := strconv.FormatInt(int64(v), 2)
	return strings.Repeat("0", n-len(text)) + text
}

func write(text string) *bits.Writer {
	w := bits.NewWriter()
	for _, d := range text {
		w.Put(int(d-'0'), 1)
	}
	return w
}

// reader answers one with just these digits ahead, whether they fill bytes or not.
func reader(text string) *bits.Reader {
	gap := (8 - len(text)%8) % 8
	r := bits.NewReader(write(strings.Repeat("1", gap) + text).Bytes())
	r.Get(gap)
	return r
}

func wantWritten(t *testing.T, w *bits.Writer, text string) {
	t.Helper()
	if w.Len() != len(text) || !bytes.Equal(w.Bytes(), write(text).Bytes()) {
		t.Fatalf("%d digits %x, want %s", w.Len(), w.Bytes(), text)
	}
}

// wantLeft takes all that is left.
func wantLeft(t *testing.T, r *bits.Reader, text string) {
	t.Helper()
	got := ""
	for r.Left() > 0 {
		v, _ := r.Get(1)
		got += strconv.Itoa(v)
	}
	if got != text {
		t.Fatalf("left are %q, want %q", got, text)
	}
}

// wantNothingTaken asks twice, so that what the first call took would be missed by the second.
func wantNothingTaken(t *testing.T, text string, k int) {
	t.Helper()
	r := reader(text)
	for range 2 {
		if z, ok := Get(r, k); ok || z != 0 {
			t.Fatalf("parameter %d, digits %q: %d, %v", k, text, z, ok)
		}
	}
	wantLeft(t, r, text)
}

// numbers answers numbers that may be, those at the edges of the parameter k among them.
func numbers(k int) []int {
	l := []int{0, 1, 2, 3, 5, 0x2aaaaaaa, 1 << 31, 0xaaaaaaaa, 1<<32 - 2, 1<<32 - 1}
	for _, q := range []int{1, 2, 12, 22, 23, 24, 25} {
		l = append(l, q<<k-1, q<<k, q<<k+1)
	}
	return l
}

var (
	wrongNumbers    = []int{-1, -2, -1 << 31, -1 << 32, 1 << 32, 1<<32 + 1, 1 << 33, 1 << 62, math.MinInt, math.MaxInt}
	wrongParameters = []int{-1, -24, -64, 25, 26, 32, 63, 64, 1 << 32, math.MinInt, math.MaxInt}
)

func TestZigAndZagInOrder(t *testing.T) {
	z := 0
	for n := range 1000 {
		for _, m := range []int{n, -n - 1} {
			if Zig(m) != z || Zag(z) != m {
				t.Fatal(m, Zig(m), z, Zag(z))
			}
			z++
		}
	}
}

func TestZigAndZagAtTheirBounds(t *testing.T) {
	for _, c := range []struct{ n, z int }{
		{-1 << 40, 1<<41 - 1},
		{1<<40 - 1, 1<<41 - 2},
		{-1<<40 + 1, 1<<41 - 3},
		{1<<40 - 2, 1<<41 - 4},
		{-1 << 23, 1<<24 - 1},
		{1<<23 - 1, 1<<24 - 2},
		{-1 << 31, 1<<32 - 1},
		{-1<<31 - 1, 1<<32 + 1},
		{1 << 31, 1 << 32},
	} {
		if Zig(c.n) != c.z || Zag(c.z) != c.n {
			t.Error(c, Zig(c.n), Zag(c.z))
		}
	}
}

func TestZigAndZagOutside(t *testing.T) {
	for _, n := range []int{-1<<40 - 1, -1<<40 - 2, 1 << 40, 1<<40 + 1, 1 << 41, -1 << 62, 1 << 62, math.MinInt, math.MinInt + 1, math.MaxInt} {
		if z := Zig(n); z != 0 {
			t.Error(n, z)
		}
	}
	for _, z := range []int{-1, -2, -1 << 41, 1 << 41, 1<<41 + 1, 1 << 42, 1 << 62, math.MinInt, math.MinInt + 1, math.MaxInt - 1, math.MaxInt} {
		if n := Zag(z); n != 0 {
			t.Error(z, n)
		}
	}
}

func TestSizeOfTheDocument(t *testing.T) {
	if got := Size(5, 1); got != 4 {
		t.Error(got)
	}
}

func TestSize(t *testing.T) {
	for k := 0; k <= api.MaxRice; k++ {
		for _, z := range numbers(k) {
			if got, want := Size(z, k), len(coded(z, k)); got != want {
				t.Errorf("%d with %d: %d, want %d", z, k, got, want)
			}
		}
		if below, from := Size(24<<k-1, k), Size(24<<k, k); below != 24+k || from != 56 {
			t.Errorf("parameter %d: %d digits below, %d from Escape on", k, below, from)
		}
	}
}

func TestPut(t *testing.T) {
	for k := 0; k <= api.MaxRice; k++ {
		for _, z := range numbers(k) {
			for _, begin := range []string{"", "1", "0110", "1011011", "10110111"} {
				w := write(begin)
				if !Put(w, z, k) {
					t.Fatal(z, k)
				}
				wantWritten(t, w, begin+coded(z, k))
			}
		}
	}
}

func TestPutByHand(t *testing.T) {
	for _, c := range []struct {
		z, k int
		text string
	}{
		{0, 0, "0"},
		{0, 2, "000"},
		{5, 1, "1101"},
		{5, 3, "0101"},
		{3, 0, "1110"},
		{23, 0, "111111111111111111111110"},
		{24, 0, "111111111111111111111111" + "00000000000000000000000000011000"},
		{47, 1, "111111111111111111111110" + "1"},
		{48, 1, "111111111111111111111111" + "00000000000000000000000000110000"},
		{7, 24, "0" + "000000000000000000000111"},
		{1<<32 - 1, 24, "111111111111111111111111" + "11111111111111111111111111111111"},
	} {
		w := bits.NewWriter()
		if !Put(w, c.z, c.k) {
			t.Fatal(c)
		}
		wantWritten(t, w, c.text)
	}
}

func TestSizeAndPutOfWhatMayNotBe(t *testing.T) {
	var wrong [][2]int
	for _, z := range wrongNumbers {
		for _, k := range []int{0, 1, 3, 23, 24} {
			wrong = append(wrong, [2]int{z, k})
		}
	}
	for _, k := range wrongParameters {
		for _, z := range []int{0, 1, 5, 24, 1<<32 - 1, 1 << 32, -1} {
			wrong = append(wrong, [2]int{z, k})
		}
	}
	for _, begin := range []string{"", "1011", "10110111"} {
		w := write(begin)
		for _, c := range wrong {
			if got := Size(c[0], c[1]); got != 0 {
				t.Error("Size", c, got)
			}
			if Put(w, c[0], c[1]) {
				t.Error("Put", c)
			}
			wantWritten(t, w, begin)
		}
		Put(w, 5, 1)
		wantWritten(t, w, begin+"1101")
	}
}

func TestGet(t *testing.T) {
	for k := 0; k <= api.MaxRice; k++ {
		for _, z := range numbers(k) {
			for _, end := range []string{"", "0", "1", "1101", "011111111"} {
				r := reader(coded(z, k) + end)
				if got, ok := Get(r, k); !ok || got != z {
					t.Fatalf("%d with %d: %d, %v", z, k, got, ok)
				}
				wantLeft(t, r, end)
			}
		}
	}
}

func TestGetWhatWasPut(t *testing.T) {
	w := bits.NewWriter()
	for k := 0; k <= api.MaxRice; k++ {
		for _, z := range numbers(k) {
			Put(w, z, k)
		}
	}
	r := bits.NewReader(w.Bytes())
	for k := 0; k <= api.MaxRice; k++ {
		for _, z := range numbers(k) {
			if got, ok := Get(r, k); !ok || got != z {
				t.Fatalf("%d with %d: %d, %v", z, k, got, ok)
			}
		}
	}
	if got := 8*len(w.Bytes()) - r.Left(); got != w.Len() {
		t.Errorf("taken are %d of %d", got, w.Len())
	}
}

func TestGetWhereTheDigitsEnd(t *testing.T) {
	for k := 0; k <= api.MaxRice; k++ {
		for _, z := range numbers(k) {
			text := coded(z, k)
			for n := range len(text) {
				wantNothingTaken(t, text[:n], k)
			}
		}
	}
	wantNothingTaken(t, "", 0)
	if z, ok := Get(bits.NewReader(nil), 0); ok || z != 0 {
		t.Error(z, ok)
	}
}

func TestGetRawThatIsTooSmall(t *testing.T) {
	escape := strings.Repeat("1", api.Escape)
	for k := 0; k <= api.MaxRice; k++ {
		least := 24 << k
		for _, z := range []int{0, 1, 1 << k, 23 << k, least - 1} {
			wantNothingTaken(t, escape+digits(z, 32), k)
			wantNothingTaken(t, escape+digits(z, 32)+"0110", k)
		}
		for _, z := range []int{least, least + 1, 1<<32 - 1} {
			r := reader(escape + digits(z, 32) + "01")
			if got, ok := Get(r, k); !ok || got != z {
				t.Fatalf("raw %d with %d: %d, %v", z, k, got, ok)
			}
			wantLeft(t, r, "01")
		}
	}
}

func TestGetWithWrongParameter(t *testing.T) {
	for _, k := range wrongParameters {
		wantNothingTaken(t, "", k)
		wantNothingTaken(t, "0", k)
		wantNothingTaken(t, "110"+strings.Repeat("01", 60), k)
		wantNothingTaken(t, strings.Repeat("1", 60), k)
	}
}

func TestGetGoesOnBehindAFailure(t *testing.T) {
	r := reader("110" + "101")
	if z, ok := Get(r, 4); ok || z != 0 {
		t.Error(z, ok)
	}
	if z, ok := Get(r, 1); !ok || z != 5 {
		t.Error(z, ok)
	}
	if z, ok := Get(r, 25); ok || z != 0 {
		t.Error(z, ok)
	}
	if z, ok := Get(r, 0); !ok || z != 0 {
		t.Error(z, ok)
	}
	wantLeft(t, r, "1")
}

func TestReadersGoTheirOwnWay(t *testing.T) {
	b := write(coded(5, 1) + coded(6, 1) + coded(7, 1)).Bytes()
	kept := slices.Clone(b)
	r, s := bits.NewReader(b), bits.NewReader(b)
	for _, want := range []int{5, 6, 7} {
		if z, ok := Get(r, 1); !ok || z != want {
			t.Error(want, z, ok)
		}
	}
	if z, ok := Get(s, 1); !ok || z != 5 || !bytes.Equal(b, kept) {
		t.Error(z, ok, b)
	}
}

// best is the model of Best: the first of the parameters whose digits, written out, are the fewest.
func best(l []int) (int, int) {
	bestK, bestSize := 0, math.MaxInt
	for k := 0; k <= 24; k++ {
		text := ""
		for _, z := range l {
			text += coded(z, k)
		}
		if len(text) < bestSize {
			bestK, bestSize = k, len(text)
		}
	}
	return bestK, bestSize
}

func wantBest(t *testing.T, l []int, k, size int) {
	t.Helper()
	kept := slices.Clone(l)
	if gotK, gotSize := Best(l...); gotK != k || gotSize != size {
		t.Fatalf("%v: %d, %d, want %d, %d", l, gotK, gotSize, k, size)
	}
	if !slices.Equal(l, kept) {
		t.Fatalf("%v was changed to %v", kept, l)
	}
}

func TestBest(t *testing.T) {
	some := []int{0, 1, 2, 3, 4, 6, 7, 9, 23, 24, 31, 100, 1000, 1 << 16, 24<<24 - 1, 24 << 24, 1<<32 - 1}
	for _, a := range some {
		for _, b := range some {
			for _, c := range some {
				for _, l := range [][]int{{a}, {a, b}, {a, b, c}, {a, a, a, b, c}} {
					k, size := best(l)
					wantBest(t, l, k, size)
				}
			}
		}
	}
}

func TestBestByHand(t *testing.T) {
	for _, c := range []struct {
		l       []int
		k, size int
	}{
		{[]int{0}, 0, 1},
		{[]int{4}, 1, 4},
		{[]int{5, 5}, 1, 8},
		{[]int{100}, 6, 8},
		{[]int{1 << 24}, 23, 26},
		{[]int{24<<24 - 1}, 24, 48},
		{[]int{24 << 24}, 0, 56},
		{[]int{1<<32 - 1}, 0, 56},
		{[]int{0, 1<<32 - 1}, 0, 57},
		{[]int{1<<24 - 1, 1<<24 - 1}, 23, 50},
		{[]int{1 << 25, 1 << 25}, 24, 54},
	} {
		wantBest(t, c.l, c.k, c.size)
	}
}

func TestBestTakesTheLeastOfSeveral(t *testing.T) {
	for _, c := range []struct {
		z, k, other int
	}{
		{2, 0, 1},
		{4, 1, 2},
		{8, 2, 3},
		{1 << 12, 11, 12},
		{1 << 24, 23, 24},
		{24 << 24, 0, 24},
	} {
		if Size(c.z, c.k) != Size(c.z, c.other) {
			t.Fatalf("%v are not as good", c)
		}
		wantBest(t, []int{c.z}, c.k, Size(c.z, c.k))
		wantBest(t, []int{c.z, c.z, c.z}, c.k, 3*Size(c.z, c.k))
	}
}

func TestBestOfNothing(t *testing.T) {
	wantBest(t, nil, 0, 0)
	wantBest(t, []int{}, 0, 0)
	wantBest(t, []int{7, 8}[:0], 0, 0)
	if k, size := Best(); k != 0 || size != 0 {
		t.Error(k, size)
	}
}

func TestBestOfWhatMayNotBe(t *testing.T) {
	for _, z := range wrongNumbers {
		for _, l := range [][]int{{z}, {z, 100}, {100, z}, {100, 100, z, 100}, {z, z}} {
			wantBest(t, l, 0, 0)
		}
	}
}

func TestBestReadsNothingBehindTheLength(t *testing.T) {
	l := []int{100, 100, -1, 1 << 40}
	wantBest(t, l[:2], 6, 16)
	if !slices.Equal(l, []int{100, 100, -1, 1 << 40}) {
		t.Error(l)
	}
}

func TestBestOfMany(t *testing.T) {
	l := slices.Repeat([]int{1<<32 - 1}, 1000)
	wantBest(t, l, 0, 56000)
	l = slices.Repeat([]int{1 << 20}, 1000)
	wantBest(t, l, 19, 22000)
}
