package field

import (
	"bytes"
	"math"
	"slices"
	"testing"
)

// spelt is the model of Put: the lowest byte is what is left over by 256, again and again.
func spelt(n, width int) []byte {
	if n < 0 {
		n = 0
	}
	var b []byte
	for i := 0; i < width && i < 8; i++ {
		b = append(b, byte(n%256))
		n /= 256
	}
	return b
}

// worth is the model of Get.
func worth(b []byte) int {
	n := 0
	for i := len(b) - 1; i >= 0; i-- {
		n = 256*n + int(b[i])
	}
	return n
}

// someNumbers are the edges of every width, and numbers between them.
func someNumbers() []int {
	l := []int{0, 1, 2, 3, 258, 0x030201, 0x0102030405060708, 0x7fedcba987654321, math.MaxInt, math.MaxInt - 1}
	for digits := 1; digits < 63; digits++ {
		l = append(l, 1<<digits-1, 1<<digits, 1<<digits+1)
	}
	return l
}

func numbersBelowNought() []int {
	return []int{-1, -2, -9, -255, -256, -258, -1 << 24, -1 << 32, -1 << 56, math.MinInt + 1, math.MinInt}
}

// aside answers b with bytes behind its length that are no part of it, and all of that memory.
func aside(b []byte) (row, memory []byte) {
	memory = append(slices.Clone(b), 0xa5, 0x5a, 0xa5, 0x5a, 0xa5, 0x5a, 0xa5, 0x5a, 0xa5)
	return memory[:len(b)], memory
}

func TestPut(t *testing.T) {
	for _, r := range []struct {
		n, width int
		want     []byte
	}{
		{258, 2, []byte{2, 1}},
		{258, 3, []byte{2, 1, 0}},
		{258, 8, []byte{2, 1, 0, 0, 0, 0, 0, 0}},
		{0, 3, []byte{0, 0, 0}},
		{5, 1, []byte{5}},
		{0x030201, 3, []byte{1, 2, 3}},
		{0x0102030405060708, 8, []byte{8, 7, 6, 5, 4, 3, 2, 1}},
		{math.MaxInt, 8, []byte{255, 255, 255, 255, 255, 255, 255, 127}},
	} {
		if got := Put(r.n, r.width); !bytes.Equal(got, r.want) {
			t.Error(r.n, r.width, got)
		}
	}
}

func TestPutOfEveryWidth(t *testing.T) {
	for _, n := range someNumbers() {
		for width := 0; width <= 8; width++ {
			if got := Put(n, width); !bytes.Equal(got, spelt(n, width)) {
				t.Error(n, width, got)
			}
		}
	}
}

func TestPutCutsOffWhatDoesNotFit(t *testing.T) {
	for _, r := range []struct {
		n, width int
		want     []byte
	}{
		{256, 1, []byte{0}},
		{258, 1, []byte{2}},
		{65535, 1, []byte{255}},
		{65536, 2, []byte{0, 0}},
		{0x030201, 2, []byte{1, 2}},
		{1 << 56, 7, []byte{0, 0, 0, 0, 0, 0, 0}},
		{math.MaxInt, 7, []byte{255, 255, 255, 255, 255, 255, 255}},
		{math.MaxInt, 1, []byte{255}},
		{258, 0, nil},
	} {
		if got := Put(r.n, r.width); !bytes.Equal(got, r.want) {
			t.Error(r.n, r.width, got)
		}
	}
}

func TestPutOfWidthsBelowNoughtAndAboveEight(t *testing.T) {
	for _, n := range append(someNumbers(), numbersBelowNought()...) {
		for _, width := range []int{-1, -2, -8, -9, math.MinInt + 1, math.MinInt} {
			if got := Put(n, width); len(got) != 0 {
				t.Error(n, width, got)
			}
		}
		for _, width := range []int{9, 10, 16, 64, 256, 264, 1 << 32, math.MaxInt - 1, math.MaxInt} {
			if got := Put(n, width); !bytes.Equal(got, spelt(n, 8)) {
				t.Error(n, width, got)
			}
		}
	}
}

func TestPutOfNumbersBelowNought(t *testing.T) {
	for _, n := range numbersBelowNought() {
		for width := 0; width <= 8; width++ {
			if got := Put(n, width); !bytes.Equal(got, make([]byte, width)) {
				t.Error(n, width, got)
			}
		}
	}
}

func TestPutIsNewMemory(t *testing.T) {
	for width := 0; width <= 9; width++ {
		one := Put(0x0102030405060708, width)
		other := Put(0x0102030405060708, width)
		clear(one[:cap(one)])
		if !bytes.Equal(other, spelt(0x0102030405060708, width)) {
			t.Error(width, other)
		}
	}
}

func TestGet(t *testing.T) {
	for _, r := range []struct {
		b    []byte
		want int
	}{
		{nil, 0},
		{[]byte{}, 0},
		{[]byte{0}, 0},
		{[]byte{255}, 255},
		{[]byte{2, 1}, 258},
		{[]byte{1, 2, 3}, 0x030201},
		{[]byte{2, 1, 0, 0, 0}, 258},
		{[]byte{0, 0, 0, 128}, 1 << 31},
		{[]byte{1, 2, 3, 4, 5, 6, 7}, 0x07060504030201},
		{[]byte{0, 0, 0, 0, 0, 0, 128}, 1 << 55},
		{[]byte{255, 255, 255, 255, 255, 255, 255}, 1<<56 - 1},
	} {
		if n, ok := Get(r.b); !ok || n != r.want {
			t.Error(r.b, n, ok)
		}
	}
}

func TestGetOfWhatWasPut(t *testing.T) {
	for _, n := range someNumbers() {
		for width := 0; width <= 7; width++ {
			b := Put(n, width)
			want := n % (1 << (8 * width))
			if got, ok := Get(b); !ok || got != want || got != worth(b) {
				t.Error(n, width, got, ok)
			}
		}
		if got, ok := Get(Put(n, 8)); ok || got != 0 {
			t.Error(n, got, ok)
		}
	}
}

func TestGetOfTooManyBytes(t *testing.T) {
	for _, size := range []int{8, 9, 15, 16, 255, 256, 263, 1 << 16} {
		for _, c := range []byte{0, 1, 128, 255} {
			if n, ok := Get(bytes.Repeat([]byte{c}, size)); ok || n != 0 {
				t.Error(size, c, n, ok)
			}
		}
	}
}

func TestGetLeavesItsBytes(t *testing.T) {
	for size := 0; size <= 9; size++ {
		b := bytes.Repeat([]byte{7}, size)
		row, memory := aside(b)
		before := slices.Clone(memory)
		n, ok := Get(row)
		if ok != (size <= 7) || ok && n != worth(b) {
			t.Error(size, n, ok)
		}
		if !bytes.Equal(memory, before) {
			t.Error(size, memory)
		}
	}
}

func TestTake(t *testing.T) {
	b := []byte{1, 2, 1, 9, 5, 0, 0, 200}
	for _, r := range []struct {
		widths, want []int
	}{
		{[]int{1}, []int{1}},
		{[]int{2}, []int{513}},
		{[]int{1, 2, 1, 3, 1}, []int{1, 258, 9, 5, 200}},
		{[]int{1, 2, 0, 1, 3}, []int{1, 258, 0, 9, 5}},
		{[]int{0}, []int{0}},
		{[]int{0, 0, 1, 0}, []int{0, 0, 1, 0}},
		{[]int{7, 1}, []int{0x0509010201, 200}},
		{[]int{7, 1, 0, 0}, []int{0x0509010201, 200, 0, 0}},
		{[]int{3, 5}, []int{0x010201, 0xc800000509}},
	} {
		if got, ok := Take(b, r.widths...); !ok || !slices.Equal(got, r.want) {
			t.Error(r.widths, got, ok)
		}
	}
}

func TestTakeOfNoWidths(t *testing.T) {
	for _, b := range [][]byte{nil, {}, {1}, {1, 2, 3, 4, 5, 6, 7, 8, 9}} {
		if got, ok := Take(b); !ok || len(got) != 0 {
			t.Error(b, got, ok)
		}
		if got, ok := Take(b, []int{}...); !ok || len(got) != 0 {
			t.Error(b, got, ok)
		}
	}
}

func TestTakeOfNoBytes(t *testing.T) {
	for _, b := range [][]byte{nil, {}} {
		if got, ok := Take(b, 0, 0, 0); !ok || !slices.Equal(got, []int{0, 0, 0}) {
			t.Error(got, ok)
		}
		for width := 1; width <= 8; width++ {
			if got, ok := Take(b, 0, width); ok || len(got) != 0 {
				t.Error(width, got, ok)
			}
		}
	}
}

// TestTakeOfWhatWasJoined goes through all rows of three widths, with bytes that are just enough, more than enough, and one too few.
func TestTakeOfWhatWasJoined(t *testing.T) {
	numbers := []int{0x7fedcba987654321, 258, math.MaxInt}
	for code := range 8 * 8 * 8 {
		widths := []int{code % 8, code / 8 % 8, code / 64}
		var l [][]byte
		var want []int
		for i, width := range widths {
			l = append(l, Put(numbers[i], width))
			want = append(want, numbers[i]%(1<<(8*width)))
		}
		b := Join(l...)
		for _, more := range [][]byte{nil, {0}, {255}, bytes.Repeat([]byte{3}, 20)} {
			if got, ok := Take(Join(b, more), widths...); !ok || !slices.Equal(got, want) {
				t.Error(widths, more, got, ok)
			}
		}
		for few := range b {
			// The bytes that are missing lie behind the length.
			if got, ok := Take(b[:few], widths...); ok || len(got) != 0 {
				t.Error(widths, few, got, ok)
			}
		}
	}
}

func TestTakeOfWidthsThatMayNotBe(t *testing.T) {
	b := bytes.Repeat([]byte{1}, 300)
	for _, wrong := range []int{-1, -2, -7, -8, -256, math.MinInt + 1, math.MinInt, 8, 9, 16, 256, 263, 300, 301, 1 << 32, math.MaxInt - 1, math.MaxInt} {
		for _, widths := range [][]int{{wrong}, {wrong, 1}, {1, wrong}, {0, wrong}, {7, 7, wrong}, {7, wrong, 7}, {wrong, wrong}, {wrong, -wrong}, {1, wrong, math.MaxInt}} {
			if got, ok := Take(b, widths...); ok || len(got) != 0 {
				t.Error(widths, got, ok)
			}
		}
	}
}

// TestTakeOfWidthsThatWouldWeighOutEachOther: a width below nought gives nothing back.
func TestTakeOfWidthsThatWouldWeighOutEachOther(t *testing.T) {
	for _, widths := range [][]int{{3, -1}, {3, -1, 1}, {-3, 6}, {7, -7, 7}, {4, -2}} {
		if got, ok := Take([]byte{1, 2, 3}, widths...); ok || len(got) != 0 {
			t.Error(widths, got, ok)
		}
	}
}

func TestTakeOfMany(t *testing.T) {
	const count = 5000
	var l [][]byte
	var widths, want []int
	for i := range count {
		width := i % 8
		n := i * 0x10001 % (1 << (8 * width))
		l = append(l, Put(n, width))
		widths = append(widths, width)
		want = append(want, n)
	}
	b := Join(l...)
	if got, ok := Take(b, widths...); !ok || !slices.Equal(got, want) {
		t.Error(len(got), ok)
	}
	if got, ok := Take(b[:len(b)-1], widths...); ok || len(got) != 0 {
		t.Error(len(got), ok)
	}
}

func TestTakeLeavesWhatIsHandedIn(t *testing.T) {
	for _, r := range []struct {
		widths []int
		want   bool
	}{{[]int{1, 2}, true}, {[]int{3}, true}, {[]int{1, 2, 1}, false}, {[]int{4}, false}, {[]int{1, 8}, false}, {[]int{1, -1}, false}, {nil, true}} {
		row, memory := aside([]byte{1, 2, 3})
		before := slices.Clone(memory)
		wide := append(slices.Clone(r.widths), 1, 2, 3, 4)
		widths := wide[:len(r.widths)]
		wideBefore := slices.Clone(wide)
		got, ok := Take(row, widths...)
		if ok != r.want {
			t.Error(r.widths, got, ok)
		}
		clear(got[:cap(got)])
		if !bytes.Equal(memory, before) || !slices.Equal(wide, wideBefore) {
			t.Error(r.widths, memory, wide)
		}
	}
}

func TestTakeIsNewMemory(t *testing.T) {
	b := []byte{1, 2, 1, 9}
	widths := []int{1, 2, 1}
	one, _ := Take(b, widths...)
	other, _ := Take(b, widths...)
	clear(one[:cap(one)])
	clear(b)
	clear(widths)
	if !slices.Equal(other, []int{1, 258, 9}) {
		t.Error(other)
	}
}

func TestJoin(t *testing.T) {
	for _, r := range []struct {
		l    [][]byte
		want []byte
	}{
		{[][]byte{{1}}, []byte{1}},
		{[][]byte{{1}, {2}}, []byte{1, 2}},
		{[][]byte{{2}, {1}}, []byte{2, 1}},
		{[][]byte{{1, 2, 3}, {4}, {5, 6}}, []byte{1, 2, 3, 4, 5, 6}},
		{[][]byte{{1}, nil, {2, 1, 9}, {}, {0, 0}}, []byte{1, 2, 1, 9, 0, 0}},
		{[][]byte{nil, {7, 8}}, []byte{7, 8}},
		{[][]byte{{7, 8}, {}}, []byte{7, 8}},
		{[][]byte{{7}, {7}, {7}}, []byte{7, 7, 7}},
	} {
		if got := Join(r.l...); !bytes.Equal(got, r.want) {
			t.Error(r.l, got)
		}
	}
}

func TestJoinOfNothing(t *testing.T) {
	for _, l := range [][][]byte{nil, {}, {nil}, {{}}, {nil, {}, nil}} {
		if got := Join(l...); len(got) != 0 {
			t.Error(l, got)
		}
	}
	if got := Join(); len(got) != 0 {
		t.Error(got)
	}
}

func TestJoinOfMany(t *testing.T) {
	var l [][]byte
	var want []byte
	for i := range 2000 {
		row := bytes.Repeat([]byte{byte(i)}, i%5)
		l = append(l, row)
		want = append(want, row...)
	}
	if got := Join(l...); !bytes.Equal(got, want) {
		t.Error(len(got))
	}
}

// TestJoinLeavesItsRows: the rows have room behind their length, where a row behind them could be written.
func TestJoinLeavesItsRows(t *testing.T) {
	first, firstMemory := aside([]byte{1, 2})
	second, secondMemory := aside([]byte{3})
	none, noneMemory := aside(nil)
	before := slices.Concat(firstMemory, secondMemory, noneMemory)
	list := [][]byte{none, first, second, first, none, {9, 9}}
	l := list[:5]
	got := Join(l...)
	if !bytes.Equal(got, []byte{1, 2, 3, 1, 2}) {
		t.Error(got)
	}
	clear(got[:cap(got)])
	if after := slices.Concat(firstMemory, secondMemory, noneMemory); !bytes.Equal(after, before) {
		t.Error(after)
	}
	if !bytes.Equal(list[5], []byte{9, 9}) || len(list[0]) != 0 || !bytes.Equal(list[1], first) {
		t.Error(list)
	}
}

func TestJoinIsNewMemory(t *testing.T) {
	for _, l := range [][][]byte{{{1, 2, 3}}, {{1}, {2, 3}}, {nil, {1, 2, 3}}, {{1, 2, 3}, nil}, {{1, 2}, {3}}} {
		one := Join(l...)
		other := Join(l...)
		clear(one[:cap(one)])
		for _, row := range l {
			clear(row)
		}
		if !bytes.Equal(other, []byte{1, 2, 3}) {
			t.Error(l, other)
		}
	}
}
