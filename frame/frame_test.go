package frame

import (
	"bytes"
	"math"
	"slices"
	"strings"
	"testing"

	"overdub/api"
)

const (
	mostKind = 18
	mostInt  = math.MaxInt
	leastInt = math.MinInt
)

// numbers answers count numbers from low to high, differently for each seed.
func numbers(count, seed, low, high int) []int {
	l := make([]int, count)
	for i := range l {
		seed = (seed*1103515245 + 12345) % (1 << 31)
		l[i] = low + (seed>>3)%(high-low+1)
	}
	return l
}

func waves(count, seed int) []int {
	return numbers(count, seed, api.Low, api.High)
}

// turns answers count numbers, one and other by turns.
func turns(count, one, other int) []int {
	l := make([]int, count)
	for i := range l {
		l[i] = one
		if i%2 == 1 {
			l[i] = other
		}
	}
	return l
}

// with answers l with v at place i instead.
func with(l []int, i, v int) []int {
	l = slices.Clone(l)
	l[i] = v
	return l
}

// sums answers for each place the sum of all numbers up to there, as often as told: a fixed predictor of that order leaves the numbers.
func sums(l []int, times int) []int {
	l = slices.Clone(l)
	for range times {
		for i := 1; i < len(l); i++ {
			l[i] += l[i-1]
		}
	}
	return l
}

// ring answers count samples that a blow leaves behind in a filter of that order, drawn by seed: coefficients of that order suit them.
func ring(count, order, height, seed int) []int {
	var coefs []int
	for _, k := range numbers(order, seed, -3500, 3500) {
		elder := slices.Clone(coefs)
		for j := range coefs {
			coefs[j] -= k * elder[len(elder)-1-j] / 4096
		}
		coefs = append(coefs, k)
	}
	x := append(make([]int, order), height)
	for len(x) < order+count {
		x = append(x, min(max(guessed(x, coefs), api.Low), api.High))
	}
	return x[order:]
}

// someCounts are numbers of samples, with all that lie around an order.
func someCounts() []int {
	return []int{1, 2, 3, 4, 5, 6, 7, 8, 9, 10, 11, 12, 13, 14, 19, 31, 40, 63, 64}
}

// someSamples are lists of count samples, among them with the edges.
func someSamples(count int) [][]int {
	return [][]int{waves(count, count+1), numbers(count, count+7, -20, 20), numbers(count, count+9, -1, 1), numbers(count, count+3, -70000, 70000),
		turns(count, api.Low, api.High), turns(count, api.High, api.Low), turns(count, 1, -1), with(make([]int, count), count/2, api.High), with(make([]int, count), count-1, api.Low),
		slices.Repeat([]int{api.Low}, count), slices.Repeat([]int{api.High}, count), slices.Repeat([]int{-7}, count), make([]int, count),
		sums(numbers(count, count, -2, 2), 1), sums(numbers(count, count, -2, 2), 2), sums(numbers(count, count, -2, 2), 3), sums(numbers(count, count, -1, 1), 4),
		ring(count, 2, 1000000, count), ring(count, 5, 5000, count), ring(count, 12, -8000000, count)}
}

func wrongSamples() []int {
	return []int{api.Low - 1, api.High + 1, 1 << 24, -1 << 24, 1 << 31, 1 << 32, -1 << 32, mostInt, mostInt - 1, leastInt + 1, leastInt}
}

func wrongKinds() []int {
	return []int{-1, -2, -7, 19, 20, 31, 255, 256, 257, 258, 263, -256, 1 << 32, 1<<32 + 1, -1 << 32, mostInt, mostInt - 1, leastInt, leastInt + 1}
}

func checkAs(t *testing.T, kind int, x []int, want []byte) {
	t.Helper()
	if got, ok := As(kind, x); ok != (want != nil) || !bytes.Equal(got, want) {
		t.Errorf("%d %v answer %x %v wanted %x", kind, x, got, ok, want)
	}
}

func checkEncode(t *testing.T, x []int, want []byte, wantErr api.Errno) {
	t.Helper()
	if got, err := Encode(x); err != wantErr || !bytes.Equal(got, want) {
		t.Errorf("%v answer %x %v wanted %x %v", x, got, err, want, wantErr)
	}
}

// checkTold holds Decode and Kind of a frame against what is wanted.
func checkTold(t *testing.T, b []byte, want []int) {
	t.Helper()
	if got, err := Decode(b); err != api.OK || !slices.Equal(got, want) {
		t.Errorf("%x answer %v %v wanted %v", b, got, err, want)
	}
	if got := Kind(b); got != int(b[0]) {
		t.Errorf("%x is of kind %d", b, got)
	}
}

func checkCorrupt(t *testing.T, b []byte) {
	t.Helper()
	if got, err := Decode(b); err != api.ErrCorrupt || len(got) != 0 {
		t.Errorf("%x answer %v %v", b, got, err)
	}
	if got := Kind(b); got != -1 {
		t.Errorf("%x is of kind %d", b, got)
	}
}

// checkModel holds Decode and Kind of any bytes against the model; it answers whether they are a frame.
func checkModel(t *testing.T, b []byte) bool {
	t.Helper()
	x, err := told(b)
	if err != api.OK {
		checkCorrupt(t, b)
		return false
	}
	checkTold(t, b, x)
	return true
}

// asked answers the model's frame as bytes; nil where there is none.
func asked(kind int, x []int) []byte {
	if s := text(kind, x); s != "" {
		return packed(s)
	}
	return nil
}

// someFrames are frames of all kinds, as digits.
func someFrames() []string {
	var l []string
	for kind := range mostKind + 1 {
		for _, count := range []int{1, 2, 4, 5, 8, 13, 20, 64} {
			for _, x := range [][]int{numbers(count, kind+count, -300, 300), slices.Repeat([]int{api.High}, count), ring(count, 3, 900000, kind), with(numbers(count, kind, -1, 1), count/2, api.Low)} {
				if s := text(kind, x); s != "" {
					l = append(l, s)
				}
			}
		}
	}
	return l
}

func TestAs(t *testing.T) {
	checkAs(t, 0, []int{7, 7, 7}, []byte{0, 3, 0x80, 0, 7})
	checkAs(t, 0, []int{-1}, []byte{0, 1, 0x7f, 0xff, 0xff})
	checkAs(t, 0, slices.Repeat([]int{api.Low}, 64), []byte{0, 64, 0, 0, 0})
	checkAs(t, 0, slices.Repeat([]int{api.High}, 64), []byte{0, 64, 0xff, 0xff, 0xff})
	checkAs(t, 1, []int{5, api.Low, api.High, -2}, []byte{1, 4, 0x80, 0, 5, 0, 0, 0, 0xff, 0xff, 0xff, 0x7f, 0xff, 0xfe})
	// The parameter 0, and 0, -1, 1 as 0, 10, 110: 00000010 110.
	checkAs(t, 2, []int{0, -1, 1}, []byte{2, 3, 0x02, 0xc0})
	// 7 is 14 by Zig: with the parameter 3 a one, a nought and 110: 00011101 10101101 0110.
	checkAs(t, 2, []int{7, 7, 7}, []byte{2, 3, 0x1d, 0xad, 0x60})
	// The residuals are -1 and 0: 00000100.
	checkAs(t, 3, []int{5, 4, 4}, []byte{3, 3, 0x80, 0, 5, 0x04})
	// 1, 2, 4 lead to 1: 00000110.
	checkAs(t, 4, []int{1, 2, 4}, []byte{4, 3, 0x80, 0, 1, 0x80, 0, 2, 0x06})
	// 1, 4, 9, 16 go on by order 3: 00000000.
	checkAs(t, 5, []int{1, 4, 9, 16}, []byte{5, 4, 0x80, 0, 1, 0x80, 0, 4, 0x80, 0, 9, 0})
	// 1, 8, 27, 64 are to have 125 behind them: -1 is left over, 00000100.
	checkAs(t, 6, []int{1, 8, 27, 64, 124}, []byte{6, 5, 0x80, 0, 1, 0x80, 0, 8, 0x80, 0, 27, 0x80, 0, 64, 0x04})
	// The coefficient is 2340 (0x8924 with 2^15), the guesses are 0 and 1, the residuals 2 and 2: 00001110 01100.
	checkAs(t, 7, []int{1, 2, 3}, []byte{7, 3, 0x80, 0, 1, 0x89, 0x24, 0x0e, 0x60})
	// The coefficients are 3185 and -682, the guess is 0, the residual 1: 00000110.
	checkAs(t, 8, []int{1, 1, 1}, []byte{8, 3, 0x80, 0, 1, 0x80, 0, 1, 0x8c, 0x71, 0x7d, 0x56, 0x06})
	// A number that is too great for the others' parameter is written raw: 00000, seven noughts, 24 ones, 32 digits.
	checkAs(t, 2, []int{0, 0, 0, 0, 0, 0, 0, 1 << 20}, []byte{2, 8, 0, 0x0f, 0xff, 0xff, 0xf0, 0x02, 0, 0, 0})
}

func TestAsOfEveryKind(t *testing.T) {
	for _, count := range someCounts() {
		for _, x := range someSamples(count) {
			for kind := range mostKind + 1 {
				checkAs(t, kind, x, asked(kind, x))
			}
		}
	}
}

func TestAsOfWrongKinds(t *testing.T) {
	for _, kind := range wrongKinds() {
		for _, x := range [][]int{nil, {0}, {1, 1, 1}, waves(20, 1), waves(64, 1), waves(65, 1), {api.High + 1}} {
			checkAs(t, kind, x, nil)
		}
	}
	x := ring(64, 12, 8000000, 4)
	for _, kind := range []int{1, 18} {
		if b, ok := As(kind, x); !ok || int(b[0]) != kind {
			t.Error(kind, b, ok)
		}
	}
}

func TestAsOfUnlikeSamples(t *testing.T) {
	for _, count := range someCounts() {
		for _, v := range []int{0, 1, api.Low, api.High} {
			x := slices.Repeat([]int{v}, count)
			checkAs(t, 0, x, packed(head(0, count)+sampled(v)))
			for i := range count {
				for _, other := range []int{-5, v - 1, v + 1} {
					if count > 1 && other >= api.Low && other <= api.High {
						checkAs(t, 0, with(x, i, other), nil)
					}
				}
			}
		}
	}
}

// TestAsOfFewSamples: fixed kinds need as many samples as the order, LPC kinds one more.
func TestAsOfFewSamples(t *testing.T) {
	for order := range 5 {
		for count := 1; count < order; count++ {
			checkAs(t, order+2, numbers(count, order, 1, 9), nil)
		}
		x := numbers(order+1, order, 1, 9)
		if order > 0 {
			// Nothing is left over: the parameter is 0.
			checkAs(t, order+2, x[:order], packed(head(order+2, order)+sampled(x[:order]...)+"00000"))
		}
		checkAs(t, order+2, x, packed(head(order+2, order+1)+sampled(x[:order]...)+shortest(differences(x, order))))
	}
	for order := 1; order <= api.MaxOrder; order++ {
		for count := 1; count <= order; count++ {
			checkAs(t, order+6, numbers(count, order, 1, 9), nil)
		}
		x := numbers(order+1, order, 1, 9)
		if b, ok := As(order+6, x); !ok || !bytes.Equal(b, asked(order+6, x)) {
			t.Error(order, b, ok)
		}
	}
}

// TestAsWithoutCoefficients: samples of which levin tells none, for they are noughts, or a coefficient is just past what may be; beside them samples whose coefficients are just at the bounds.
func TestAsWithoutCoefficients(t *testing.T) {
	for order := 1; order <= api.MaxOrder; order++ {
		for _, count := range []int{order + 1, 20, 64} {
			checkAs(t, order+6, make([]int, count), nil)
			x := with(make([]int, count), 0, 1)
			checkAs(t, order+6, x, packed(head(order+6, count)+sampled(x[:order]...)+coefficiented(make([]int, order)...)+"00000"+strings.Repeat("0", count-order)))
		}
	}
	for _, r := range []struct {
		order int
		x     []int
	}{
		{6, []int{90, -1619, 4923, -7765, 7765, -4923, 1619, -90}},
		{12, []int{0, 0, 1, -9, 28, -52, 64, -52, 28, -9, 1, 0, 0}},
		{10, []int{16, -207, 626, -1178, 1695, -2006, 2006, -1695, 1178, -626, 207, -16}},
	} {
		checkAs(t, r.order+6, r.x, nil)
	}
	for _, r := range []struct {
		order int
		edge  string
		x     []int
	}{
		{6, digits(0, 16), []int{468, -17274, 69366, -122591, 122591, -69366, 17274, -468}},
		{10, digits(1<<16-1, 16), []int{1, -43, 208, -544, 1018, -1520, 1904, -2048, 1904, -1520, 1018, -544, 208, -43, 1}},
	} {
		s := text(r.order+6, r.x)
		if !strings.Contains(s, r.edge) {
			t.Error(r, s)
		}
		checkAs(t, r.order+6, r.x, packed(s))
		checkTold(t, packed(s), r.x)
	}
}

func TestAsOfWrongSamples(t *testing.T) {
	for kind := range mostKind + 1 {
		checkAs(t, kind, nil, nil)
		checkAs(t, kind, []int{}, nil)
		for _, wrong := range wrongSamples() {
			for _, count := range []int{1, 13, 64, 65} {
				checkAs(t, kind, slices.Repeat([]int{wrong}, count), nil)
				for i := range count {
					checkAs(t, kind, with(numbers(count, i, -9, 9), i, wrong), nil)
					checkAs(t, kind, with(slices.Repeat([]int{4}, count), i, wrong), nil)
				}
			}
		}
		for _, x := range [][]int{slices.Repeat([]int{api.Low}, 64), slices.Repeat([]int{api.High}, 64)} {
			checkAs(t, kind, x, asked(kind, x))
		}
		for _, count := range []int{65, 66, 128, 256, 257, 300, 5000} {
			checkAs(t, kind, slices.Repeat([]int{4}, count), nil)
			checkAs(t, kind, waves(count, kind), nil)
		}
		full := ring(64, 4, 800000, 3)
		if kind > 0 {
			if b, ok := As(kind, full); !ok || b[1] != 64 {
				t.Error(kind, b, ok)
			}
		}
	}
}

func TestEncode(t *testing.T) {
	if b, err := Encode([]int{7, 7, 7}); err != api.OK || len(b) != 5 {
		t.Error(b, err)
	}
	checkEncode(t, []int{0}, []byte{2, 1, 0}, api.OK)
	checkEncode(t, make([]int, 64), []byte{0, 64, 0x80, 0, 0}, api.OK)
	checkEncode(t, []int{-5000000, -5000000}, []byte{0, 2, 0x33, 0xb4, 0xc0}, api.OK)
	checkEncode(t, []int{api.Low, api.High}, []byte{1, 2, 0, 0, 0, 0xff, 0xff, 0xff}, api.OK)
}

func TestEncodeOfEveryLength(t *testing.T) {
	for _, count := range someCounts() {
		for _, x := range someSamples(count) {
			kind, _ := least(x)
			checkEncode(t, x, asked(kind, x), api.OK)
		}
	}
	for seed := range 1500 {
		count := 1 + seed%64
		size := 1 << (seed % 24)
		x := numbers(count, seed, -size, size-1)
		if seed%2 == 0 {
			x = ring(count, 1+seed%12, size-1, seed)
		}
		kind, _ := least(x)
		checkEncode(t, x, asked(kind, x), api.OK)
	}
}

// TestEncodeTakesEachKind has samples for each kind, of which it alone has the fewest digits.
func TestEncodeTakesEachKind(t *testing.T) {
	for kind, x := range [][]int{
		slices.Repeat([]int{3000000}, 9), waves(9, 1), numbers(30, 1, -9, 9),
		sums(with(numbers(30, 1, -9, 9), 0, 50000), 1), sums(with(numbers(40, 1, -9, 9), 0, 90000), 2), sums(with(numbers(50, 1, -9, 9), 0, 900), 3), sums(with(numbers(64, 2, -1, 1), 0, 150), 4),
	} {
		checkAlone(t, kind, x)
	}
	for kind, seed := range []int{0, 1, 0, 1, 0, 1, 0, 0, 1, 3, 9, 16} {
		checkAlone(t, kind+7, ring(64, kind+1, 8000000, seed))
	}
}

func checkAlone(t *testing.T, kind int, x []int) {
	t.Helper()
	if _, same := least(x); !slices.Equal(same, []int{kind}) {
		t.Error(x, "is of kinds", same, "wanted", kind)
	}
	checkEncode(t, x, asked(kind, x), api.OK)
	b, _ := Encode(x)
	checkTold(t, b, x)
	if b[0] != byte(kind) {
		t.Error(x, b[0], kind)
	}
}

// TestEncodeTakesTheLeastKind: of several that have as few digits.
func TestEncodeTakesTheLeastKind(t *testing.T) {
	for _, r := range []struct {
		same, x []int
	}{
		{[]int{0, 1}, []int{api.High}},
		{[]int{0, 1}, []int{api.Low}},
		{[]int{0, 1, 2}, []int{100000}},
		{[]int{0, 2}, make([]int, 19)},
		{[]int{1, 2}, []int{620352, -302397}},
		{[]int{1, 2, 3}, []int{543885, 477902}},
		{[]int{1, 7}, []int{2579595, -735883, 209926}},
		{[]int{1, 3}, []int{3068318, 160105, 2377624, 2697928, 2558963, 1288846, 4401047, 1459179}},
		{[]int{2, 3}, []int{517729, 471223}},
		{[]int{2, 4}, []int{4116538, 1821321, 495872, -1822795, -1686685, -838490}},
		{[]int{2, 7}, []int{354811, -188633, 100285, -53316}},
		{[]int{2, 8}, []int{9988, 4475, -4400, -4842, 652, 3397, 1104, -1684, -1463, 425}},
		{[]int{3, 4}, []int{3148471, 1992585, 1261055, 798088}},
		{[]int{3, 7}, []int{53, 46, 40, 35, 31, 27, 23, 20, 18, 15, 13, 12}},
		{[]int{4, 5}, []int{4180989, 3904921, 3647083, 3406269, 3181355}},
		{[]int{4, 7}, []int{2598605, 1748360, 1176309, 791429, 532479}},
		{[]int{5, 6}, []int{783274, 687983, 604284, 530768, 466196, 409480, 359663, 315907}},
		{[]int{7, 8}, []int{5127463, 1656419, 535103, 172864, 55844, 18040, 5828, 1883, 608, 196, 63, 21, 7, 2, 1, 0, 0, 0, 0, 0, 0, 0}},
		{[]int{7, 9}, []int{177, -15, 1, -57, 10, -1, 18, -5, 1, -6, 2, 0, 2, -1, 0, -1, 0, 0, 0, 0, 0, 0, 0, 0}},
		{[]int{8, 9}, ring(64, 2, 8000000, 0)},
	} {
		if _, same := least(r.x); !slices.Equal(same, r.same) {
			t.Error(r.x, "is of kinds", same, "wanted", r.same)
		}
		checkEncode(t, r.x, asked(r.same[0], r.x), api.OK)
	}
}

// TestEncodeCountsDigits: two kinds have as many bytes, but a greater one has fewer digits.
func TestEncodeCountsDigits(t *testing.T) {
	for count := 3; count <= 18; count++ {
		x := make([]int, count)
		checkEncode(t, x, packed(head(2, count)+"00000"+strings.Repeat("0", count)), api.OK)
	}
	met := 0
	for seed := range 3000 {
		x := ring(2+seed%40, 1+seed%4, 1<<(seed%23), seed)
		kind, _ := least(x)
		for other := range kind {
			if b := asked(other, x); b != nil && len(b) == len(asked(kind, x)) {
				met++
				checkEncode(t, x, asked(kind, x), api.OK)
			}
		}
	}
	if met < 20 {
		t.Error("too few lists with as many bytes:", met)
	}
}

func TestEncodeOfTooManySamplesOrNone(t *testing.T) {
	checkEncode(t, nil, nil, api.ErrLimit)
	checkEncode(t, []int{}, nil, api.ErrLimit)
	for _, count := range []int{65, 66, 128, 256, 257, 320, 1 << 16} {
		checkEncode(t, make([]int, count), nil, api.ErrLimit)
		checkEncode(t, waves(count, 1), nil, api.ErrLimit)
	}
	for _, count := range []int{1, 64} {
		x := slices.Repeat([]int{api.Low}, count)
		checkEncode(t, x, append([]byte{0, byte(count)}, 0, 0, 0), api.OK)
	}
}

func TestEncodeOfWrongSamples(t *testing.T) {
	for _, wrong := range wrongSamples() {
		for _, count := range []int{1, 2, 13, 64} {
			checkEncode(t, slices.Repeat([]int{wrong}, count), nil, api.ErrSample)
			for i := range count {
				checkEncode(t, with(waves(count, i), i, wrong), nil, api.ErrSample)
			}
		}
		// Too many of them go ahead of wrong ones.
		for _, count := range []int{65, 66, 300} {
			for _, i := range []int{0, 1, 63, 64} {
				checkEncode(t, with(waves(count, i), i, wrong), nil, api.ErrLimit)
			}
			checkEncode(t, slices.Repeat([]int{wrong}, count), nil, api.ErrLimit)
		}
	}
}

// TestDecodeOfAllFrames: what is decoded is what was coded, and Encode never has more bytes than verbatim.
func TestDecodeOfAllFrames(t *testing.T) {
	for _, count := range someCounts() {
		for _, x := range someSamples(count) {
			b, err := Encode(x)
			if err != api.OK || len(b) > 2+3*count {
				t.Error(x, b, err)
			}
			checkTold(t, b, x)
			for kind := range mostKind + 1 {
				if b, ok := As(kind, x); ok {
					checkTold(t, b, x)
					if int(b[0]) != kind {
						t.Error(kind, b)
					}
				}
			}
		}
	}
}

// TestEncodeOfNoise: the worst there is has as many bytes as verbatim.
func TestEncodeOfNoise(t *testing.T) {
	for count := 1; count <= 64; count++ {
		for seed := range 20 {
			x := waves(count, seed)
			b, err := Encode(x)
			if err != api.OK || len(b) > 2+3*count {
				t.Error(x, len(b), err)
			}
			checkTold(t, b, x)
		}
		x := turns(count, api.High, api.Low)
		if b, ok := As(1, x); !ok || len(b) != 2+3*count {
			t.Error(count, b, ok)
		}
	}
}

func TestDecode(t *testing.T) {
	checkTold(t, []byte{0, 3, 0x80, 0, 7}, []int{7, 7, 7})
	checkTold(t, []byte{0, 1, 0, 0, 0}, []int{api.Low})
	checkTold(t, []byte{0, 64, 0xff, 0xff, 0xff}, slices.Repeat([]int{api.High}, 64))
	checkTold(t, []byte{1, 2, 0x7f, 0xff, 0xff, 0, 0, 0}, []int{-1, api.Low})
	checkTold(t, []byte{2, 3, 0x02, 0xc0}, []int{0, -1, 1})
	checkTold(t, []byte{3, 3, 0x80, 0, 5, 0x04}, []int{5, 4, 4})
	checkTold(t, []byte{4, 3, 0x80, 0, 1, 0x80, 0, 2, 0x06}, []int{1, 2, 4})
	checkTold(t, []byte{5, 4, 0x80, 0, 1, 0x80, 0, 4, 0x80, 0, 9, 0}, []int{1, 4, 9, 16})
	checkTold(t, []byte{6, 5, 0x80, 0, 1, 0x80, 0, 8, 0x80, 0, 27, 0x80, 0, 64, 0x04}, []int{1, 8, 27, 64, 124})
	checkTold(t, []byte{7, 3, 0x80, 0, 1, 0x89, 0x24, 0x0e, 0x60}, []int{1, 2, 3})
	// With a coefficient of -1 each guess from 1 on is -1: 4095 over 4096, rounded down.
	checkTold(t, []byte{7, 3, 0x80, 0, 1, 0x7f, 0xff, 0x00}, []int{1, -1, 0})
}

// TestDecodeOfAFrameThatIsNotTheBest: a frame may be of any kind that suits the samples, or does not.
func TestDecodeOfAFrameThatIsNotTheBest(t *testing.T) {
	// Like samples, in full.
	checkTold(t, packed(head(1, 64)+strings.Repeat(sampled(5), 64)), slices.Repeat([]int{5}, 64))
	// Coefficients for noughts, of which levin tells none.
	checkTold(t, packed(head(18, 13)+sampled(make([]int, 12)...)+coefficiented(numbers(12, 1, -32768, 32767)...)+"00000"+"0"), make([]int, 13))
}

func TestDecodeOfWrongKinds(t *testing.T) {
	checkCorrupt(t, nil)
	checkCorrupt(t, []byte{})
	for kind := range 256 {
		checkCorrupt(t, []byte{byte(kind)})
		if kind > mostKind {
			for _, s := range someFrames() {
				b := packed(s)
				b[0] = byte(kind)
				checkCorrupt(t, b)
				checkCorrupt(t, append(b, make([]byte, 200)...))
			}
			checkCorrupt(t, append([]byte{byte(kind), 1}, make([]byte, 3000)...))
		}
	}
}

func TestDecodeOfAnotherKind(t *testing.T) {
	for _, s := range someFrames() {
		for kind := range mostKind + 1 {
			b := packed(s)
			b[0] = byte(kind)
			checkModel(t, b)
			checkModel(t, append(b, make([]byte, 100)...))
		}
	}
}

func TestDecodeOfWrongCounts(t *testing.T) {
	for kind := range mostKind + 1 {
		for _, count := range []int{0, 65, 66, 128, 192, 255} {
			checkCorrupt(t, []byte{byte(kind), byte(count)})
			// Noughts are residuals, samples and all else that could be asked for.
			checkCorrupt(t, append([]byte{byte(kind), byte(count)}, make([]byte, 3000)...))
		}
	}
	for _, count := range []int{1, 2, 63, 64, 65, 255} {
		x := numbers(count, count, -9, 9)
		frames := []string{
			head(0, count) + sampled(4), head(1, count) + sampled(x...), head(2, count) + parted(x, 2),
			head(3, count) + sampled(x[0]) + parted(differences(x, 1), 2), head(7, count) + sampled(x[0]) + coefficiented(500) + parted(leftOver(x, []int{500}), 2),
		}
		for kind, s := range frames {
			if count > 64 || count == 1 && kind == 4 {
				checkCorrupt(t, packed(s))
			} else if kind == 0 {
				checkTold(t, packed(s), slices.Repeat([]int{4}, count))
			} else {
				checkTold(t, packed(s), x)
			}
		}
	}
}

func TestDecodeOfCutFrames(t *testing.T) {
	for _, s := range someFrames() {
		b := packed(s)
		for left := range b {
			checkCorrupt(t, b[:left])
		}
		// Noughts in the stead of the digits that were cut off may make another frame.
		for left := max(0, len(b)-12); left < len(b); left++ {
			checkModel(t, append(slices.Clone(b[:left]), make([]byte, 60)...))
		}
	}
}

func TestDecodeOfNoughtsBehind(t *testing.T) {
	for _, s := range someFrames() {
		x, err := told(packed(s))
		if err != api.OK {
			t.Fatal(s)
		}
		for _, count := range []int{0, 1, 2, 7, 124, 1000} {
			checkTold(t, append(packed(s), make([]byte, count)...), x)
		}
	}
}

func TestDecodeOfAOneBehind(t *testing.T) {
	for _, s := range someFrames() {
		filled := s + strings.Repeat("0", (8-len(s)%8)%8+24)
		for at := len(s); at < len(filled); at++ {
			b := packed(filled[:at] + "1" + filled[at+1:])
			checkCorrupt(t, b)
			checkCorrupt(t, b[:at/8+1])
		}
		checkCorrupt(t, append(append(packed(s), make([]byte, 500)...), 1))
		checkCorrupt(t, append(append(packed(s), make([]byte, 500)...), 128, 0, 0))
		checkCorrupt(t, append(packed(s), packed(s)...))
	}
}

func TestDecodeOfAnyParameter(t *testing.T) {
	for order := range 5 {
		for _, x := range someSamples(order + 9) {
			s := head(order+2, order+9) + sampled(x[:order]...)
			for k := range 32 {
				checkParameter(t, s+parted(differences(x, order), k), k, x)
			}
			for k := range 32 {
				if order > 0 {
					checkParameter(t, head(order+2, order)+sampled(x[:order]...)+digits(k, 5), k, x[:order])
				}
			}
		}
	}
	for order := 1; order <= api.MaxOrder; order++ {
		coefs := numbers(order, order, -2000, 2000)
		for _, x := range someSamples(order + 9) {
			s := head(order+6, order+9) + sampled(x[:order]...) + coefficiented(coefs...)
			for k := range 32 {
				checkParameter(t, s+parted(leftOver(x, coefs), k), k, x)
			}
		}
	}
}

func checkParameter(t *testing.T, s string, k int, x []int) {
	t.Helper()
	if k > api.MaxRice {
		checkCorrupt(t, packed(s))
		return
	}
	checkTold(t, packed(s), x)
}

// TestDecodeOfRawNumbers: one that needs not be raw may not be.
func TestDecodeOfRawNumbers(t *testing.T) {
	raw := func(k, z int) []byte {
		return packed(head(3, 2) + sampled(api.Low) + digits(k, 5) + strings.Repeat("1", 24) + digits(z, 32))
	}
	for k := range api.MaxRice + 1 {
		bound := 24 << k
		for _, z := range []int{0, 1, bound / 2, bound - 2, bound - 1} {
			checkCorrupt(t, raw(k, z))
		}
		for _, z := range []int{bound, bound + 2} {
			if zag(z) <= api.High-api.Low {
				checkTold(t, raw(k, z), []int{api.Low, api.Low + zag(z)})
			} else {
				checkCorrupt(t, raw(k, z))
			}
		}
		for _, z := range []int{bound + 1, 1<<32 - 1, 1<<32 - 2, 1 << 31, 1<<31 - 1} {
			checkCorrupt(t, raw(k, z))
		}
	}
}

// TestDecodeOfTheGreatestNumbers: the greatest guess there is, and what brings it back.
func TestDecodeOfTheGreatestNumbers(t *testing.T) {
	warm, coefs := slices.Repeat([]int{api.Low}, 12), slices.Repeat([]int{-32768}, 12)
	guess := 12 * 8 << 23
	if guessed(warm, coefs) != guess {
		t.Fatal(guessed(warm, coefs))
	}
	for _, v := range []int{api.Low - 1, api.Low, 0, api.High, api.High + 1} {
		for _, k := range []int{0, 24} {
			b := packed(head(18, 13) + sampled(warm...) + coefficiented(coefs...) + parted([]int{v - guess}, k))
			if v < api.Low || v > api.High {
				checkCorrupt(t, b)
			} else {
				checkTold(t, b, append(slices.Clone(warm), v))
			}
		}
	}
	for _, z := range []int{1<<32 - 1, 1<<32 - 2, 1 << 31, 0, 1} {
		checkCorrupt(t, packed(head(18, 13)+sampled(warm...)+coefficiented(coefs...)+digits(0, 5)+riced(z, 0)))
	}
}

func TestDecodeOfAnyCoefficients(t *testing.T) {
	for order := 1; order <= api.MaxOrder; order++ {
		for _, count := range []int{order + 1, order + 2, 30, 64} {
			for _, coefs := range [][]int{make([]int, order), slices.Repeat([]int{-32768}, order), slices.Repeat([]int{32767}, order), turns(order, -32768, 32767), turns(order, 4096, -4096),
				slices.Repeat([]int{-1}, order), slices.Repeat([]int{1}, order), numbers(order, count, -32768, 32767), numbers(order, count, -5000, 5000)} {
				for _, x := range someSamples(count) {
					checkTold(t, packed(head(order+6, count)+sampled(x[:order]...)+coefficiented(coefs...)+parted(leftOver(x, coefs), 3)), x)
				}
			}
		}
	}
}

// TestDecodeOfSamplesBeyondTheBounds: a residual leads just to a bound, and just past it.
func TestDecodeOfSamplesBeyondTheBounds(t *testing.T) {
	for kind := 2; kind <= mostKind; kind++ {
		order, coefs := kind-2, []int{}
		if kind >= 7 {
			order = kind - 6
			coefs = numbers(order, kind, -3000, 3000)
		} else {
			coefs = fixedCoefs(order)
		}
		for _, count := range []int{order + 1, order + 5, 64} {
			for i := order; i < count; i++ {
				for _, v := range []int{api.Low - 2, api.Low - 1, api.Low, api.High, api.High + 1, api.High + 2} {
					x := with(waves(count, i), i, v)
					s := head(kind, count) + sampled(x[:order]...)
					if kind >= 7 {
						s += coefficiented(coefs...)
					}
					s += parted(leftOver(x, coefs), 5)
					if v < api.Low || v > api.High {
						checkCorrupt(t, packed(s))
					} else {
						checkTold(t, packed(s), x)
					}
				}
			}
		}
	}
}

// TestDecodeOfSamplesThatLeadBeyondTheBounds: nothing is left over, but the guess goes too far.
func TestDecodeOfSamplesThatLeadBeyondTheBounds(t *testing.T) {
	rest := func(count int) string { return "00000" + strings.Repeat("0", count) }
	checkTold(t, packed(head(4, 3)+sampled(api.High-2, api.High-1)+rest(1)), []int{api.High - 2, api.High - 1, api.High})
	checkCorrupt(t, packed(head(4, 3)+sampled(api.High-1, api.High)+rest(1)))
	checkCorrupt(t, packed(head(4, 4)+sampled(api.High-2, api.High-1)+rest(2)))
	checkTold(t, packed(head(4, 3)+sampled(api.Low+2, api.Low+1)+rest(1)), []int{api.Low + 2, api.Low + 1, api.Low})
	checkCorrupt(t, packed(head(4, 3)+sampled(api.Low+1, api.Low)+rest(1)))
	checkCorrupt(t, packed(head(5, 4)+sampled(api.High, 0, api.High)+rest(1)))
	checkCorrupt(t, packed(head(6, 5)+sampled(api.Low, api.High, api.Low, api.High)+rest(1)))
	half := api.High / 2
	checkTold(t, packed(head(7, 2)+sampled(half)+coefficiented(8192)+rest(1)), []int{half, api.High - 1})
	checkCorrupt(t, packed(head(7, 2)+sampled(half+1)+coefficiented(8192)+rest(1)))
	checkTold(t, packed(head(7, 2)+sampled(-half-1)+coefficiented(8192)+rest(1)), []int{-half - 1, api.Low})
	checkCorrupt(t, packed(head(7, 2)+sampled(-half-2)+coefficiented(8192)+rest(1)))
	checkCorrupt(t, packed(head(7, 2)+sampled(api.Low)+coefficiented(-4096)+rest(1)))
	checkTold(t, packed(head(7, 2)+sampled(api.Low)+coefficiented(-4095)+rest(1)), []int{api.Low, 1<<23 - 2048})
}

// TestDecodeOfTooFewSamples: fixed frames have at least as many samples as the order, LPC frames more.
func TestDecodeOfTooFewSamples(t *testing.T) {
	for order := range 5 {
		x := waves(4, order)
		for count := range 5 {
			s := head(order+2, count) + sampled(x[:order]...) + parted(make([]int, max(0, count-order)), 0)
			if count < order || count == 0 {
				checkCorrupt(t, packed(s))
				checkCorrupt(t, packed(head(order+2, count)+sampled(x[:count]...)+"00000"))
			} else {
				checkModel(t, packed(s))
			}
			if count == order && count > 0 {
				checkTold(t, packed(s), x[:count])
			}
		}
	}
	for order := 1; order <= api.MaxOrder; order++ {
		x, coefs := make([]int, 13), numbers(order, order, -9, 9)
		for count := range 14 {
			s := head(order+6, count) + sampled(x[:order]...) + coefficiented(coefs...) + parted(make([]int, max(0, count-order)), 0)
			if count <= order {
				checkCorrupt(t, packed(s))
				checkCorrupt(t, packed(head(order+6, count)+sampled(x[:count]...)+coefficiented(coefs[:count]...)+"00000"))
			} else {
				checkTold(t, packed(s), x[:count])
			}
		}
	}
}

// TestDecodeOfTurnedDigits: each frame with each of its digits turned, held against the model.
func TestDecodeOfTurnedDigits(t *testing.T) {
	frames := 0
	for n, s := range someFrames() {
		if n%3 != 0 {
			continue
		}
		for at := 0; at < len(s); at += 1 + len(s)/150 {
			b := packed(s)
			b[at/8] ^= 128 >> (at % 8)
			if checkModel(t, b) {
				frames++
			}
		}
	}
	if frames < 1000 {
		t.Error("too few that are frames:", frames)
	}
}

func TestDecodeOfAnyBytes(t *testing.T) {
	for seed := range 20000 {
		b := make([]byte, seed%70)
		high := []int{255, 255, 31, 1}[seed%4]
		for i, v := range numbers(len(b), seed, 0, high) {
			b[i] = byte(v)
			if high == 1 {
				b[i] = byte(v << (i % 8))
			}
		}
		if len(b) > 1 && seed%5 > 0 {
			b[0], b[1] = byte(seed%20), b[1]%66
		}
		checkModel(t, b)
	}
	for _, v := range []byte{0, 1, 2, 64, 127, 128, 254, 255} {
		for count := range 300 {
			checkModel(t, bytes.Repeat([]byte{v}, count))
		}
	}
}

// aside answers l with numbers around it that are no part of it, and all of that memory.
func aside[T any](l []T, around T) (row, memory []T) {
	memory = slices.Concat([]T{around, around}, l, slices.Repeat([]T{around}, 80))
	return memory[2 : 2+len(l)], memory
}

func TestMemoryOfSamples(t *testing.T) {
	for _, count := range []int{1, 2, 13, 20, 64} {
		for _, around := range []int{4, 0, api.High + 1} {
			for _, l := range append(someSamples(count), slices.Repeat([]int{4}, count)) {
				x, memory := aside(l, around)
				elder := slices.Clone(memory)
				kind, _ := least(l)
				checkEncode(t, x, asked(kind, l), api.OK)
				for kind := range mostKind + 1 {
					checkAs(t, kind, x, asked(kind, l))
				}
				if !slices.Equal(memory, elder) {
					t.Error(l, "was changed")
				}
			}
		}
	}
	// Wrong ones are not changed, either, and what lies behind none is not read.
	x, memory := aside(with(waves(20, 1), 19, api.High+1), 4)
	elder := slices.Clone(memory)
	checkEncode(t, x, nil, api.ErrSample)
	checkEncode(t, x[:0], nil, api.ErrLimit)
	checkAs(t, 1, x, nil)
	checkAs(t, 0, x[:0], nil)
	if !slices.Equal(memory, elder) {
		t.Error("was changed")
	}
}

func TestMemoryOfBytes(t *testing.T) {
	for _, s := range someFrames() {
		for _, around := range []byte{0, 1, 255} {
			b, memory := aside(packed(s), around)
			elder := slices.Clone(memory)
			x, _ := told(packed(s))
			checkTold(t, b, x)
			checkCorrupt(t, b[:len(b)-1])
			checkCorrupt(t, b[:0])
			if !bytes.Equal(memory, elder) {
				t.Error(s, "was changed")
			}
		}
	}
}

// TestAnswersAreNewMemory: what a caller does to an answer, or to what was handed in, is seen in no other.
func TestAnswersAreNewMemory(t *testing.T) {
	for kind := range mostKind + 1 {
		x := slices.Repeat([]int{900}, 30)
		elder := slices.Clone(x)
		want := asked(kind, x)
		one, _ := As(kind, x)
		two, _ := As(kind, x)
		for i := range one {
			one[i] ^= 255
		}
		x[0] = 5
		if !bytes.Equal(two, want) {
			t.Error(kind, "shares memory")
		}
		b := slices.Clone(want)
		samples, _ := Decode(b)
		others, _ := Decode(b)
		for i := range samples {
			samples[i] = 77
		}
		for i := range b {
			b[i] = 255
		}
		if !slices.Equal(others, elder) {
			t.Error(kind, "shares memory")
		}
	}
	x := waves(20, 3)
	one, _ := Encode(x)
	two, _ := Encode(x)
	want := slices.Clone(two)
	clear(one)
	clear(x)
	if !bytes.Equal(two, want) {
		t.Error("Encode shares memory")
	}
}

// TestAnswersHangOnArgumentsAlone: calls between, with other samples and wrong ones, leave no trace.
func TestAnswersHangOnArgumentsAlone(t *testing.T) {
	x := ring(40, 6, 700000, 2)
	first, _ := Encode(x)
	for _, count := range someCounts() {
		for _, other := range someSamples(count) {
			Encode(other)
			Encode(with(other, 0, api.High+1))
			As(count%21-1, other)
			Decode(first[:count%len(first)])
			Kind(first[1:])
			checkEncode(t, x, first, api.OK)
			checkTold(t, first, x)
		}
	}
}
