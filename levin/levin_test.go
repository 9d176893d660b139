package levin

import (
	"math"
	"math/big"
	"slices"
	"testing"

	"overdub/api"
)

// over is a quotient of numbers without bounds. Div rounds down, as d is above 0.
func over(n, d *big.Int) *big.Int {
	return new(big.Int).Div(n, d)
}

func times(a, b *big.Int) *big.Int {
	return new(big.Int).Mul(a, b)
}

func less(a, b *big.Int) *big.Int {
	return new(big.Int).Sub(a, b)
}

func number(n int) *big.Int {
	return big.NewInt(int64(n))
}

func ints(l []*big.Int) []int {
	var row []int
	for _, n := range l {
		row = append(row, int(n.Int64()))
	}
	return row
}

// products is the model of Auto where there is no error.
func products(x []int, lags int) []int {
	l := make([]*big.Int, lags+1)
	for k := range l {
		l[k] = new(big.Int)
		for i := range x {
			if i-k >= 0 {
				l[k].Add(l[k], times(number(x[i]), number(x[i-k])))
			}
		}
	}
	return ints(l)
}

// shrunk is the model of Scaled where there is an answer.
func shrunk(r []int) ([]int, int) {
	s, d := 0, number(1)
	for over(number(r[0]), d).Cmp(number(1<<30)) >= 0 {
		s, d = s+1, times(d, number(2))
	}
	var l []*big.Int
	for _, n := range r {
		l = append(l, over(number(n), d))
	}
	return ints(l), s
}

// step is one of the model's steps: k ahead of the cut, and the coefficients behind the step, a[1] first.
type step struct {
	uncut *big.Int
	coefs []int
}

// steps is the model of what Coefficients works out, straight from the document's words, with places that count from 1 on. Of a sum of nought there are none.
func steps(x []int, order int) []step {
	r, _ := shrunk(products(x, order))
	e, a := number(r[0]), make([]*big.Int, order+1)
	var l []step
	for i := 1; i <= order; i++ {
		if e.Cmp(number(1)) < 0 {
			return nil
		}
		n := times(number(r[i]), number(4096))
		for j := 1; j <= i-1; j++ {
			n = less(n, times(a[j], number(r[i-j])))
		}
		uncut := over(n, e)
		k := uncut
		if k.Cmp(number(4095)) > 0 {
			k = number(4095)
		}
		if k.Cmp(number(-4095)) < 0 {
			k = number(-4095)
		}
		elder := slices.Clone(a)
		for j := 1; j <= i-1; j++ {
			a[j] = less(elder[j], over(times(k, elder[i-j]), number(4096)))
		}
		a[i] = k
		e = less(e, over(times(over(times(k, k), number(4096)), e), number(4096)))
		l = append(l, step{uncut, ints(a[1 : i+1])})
	}
	return l
}

// fit says whether all of the coefficients may be.
func fit(coefs []int) bool {
	return slices.Min(coefs) >= -32768 && slices.Max(coefs) <= 32767
}

// suited is the model of Coefficients, for an order and samples that may be.
func suited(x []int, order int) ([]int, bool) {
	l := steps(x, order)
	if len(l) == 0 || !fit(l[order-1].coefs) {
		return nil, false
	}
	return l[order-1].coefs, true
}

// numbers answers count numbers from low to high, differently for each seed.
func numbers(count, seed, low, high int) []int {
	l := make([]int, count)
	for i := range l {
		seed = (seed*1103515245 + 12345) % (1 << 31)
		l[i] = low + (seed>>3)%(high-low+1)
	}
	return l
}

func waves(count, seed int) []int {
	return numbers(count, seed, api.Low, api.High)
}

// turns answers count numbers, one and other by turns.
func turns(count, one, other int) []int {
	l := make([]int, count)
	for i := range l {
		l[i] = one
		if i%2 == 1 {
			l[i] = other
		}
	}
	return l
}

// hill answers count samples that rise from nought and fall to it, with the given pitch, as a player's note does: their coefficients are great.
func hill(count int, height, steep, pitch float64) []int {
	l := make([]int, count)
	for i := range l {
		w := math.Sin(math.Pi * (float64(i) + 0.5) / float64(count))
		l[i] = int(math.Round(height * math.Pow(w, steep) * math.Cos(pitch*float64(i))))
	}
	return l
}

// someSamples are lists of count samples, among them with the edges.
func someSamples(count int) [][]int {
	return [][]int{waves(count, count+1), numbers(count, count+7, -20, 20), numbers(count, count+9, -1, 1), turns(count, api.Low, api.High), turns(count, api.High, api.Low), turns(count, 1, -1),
		slices.Repeat([]int{api.Low}, count), slices.Repeat([]int{api.High}, count), slices.Repeat([]int{1}, count), make([]int, count),
		hill(count, 100, 3, 0), hill(count, api.High, 4, 0), hill(count, api.High, 5, math.Pi), hill(count, 5000, 4, 3), hill(count, 1e6, 2, 1.5)}
}

func wrongSamples() []int {
	return []int{api.Low - 1, api.High + 1, 1 << 24, -1 << 24, 1 << 31, 1 << 32, -1 << 32, math.MaxInt, math.MaxInt - 1, math.MinInt + 1, math.MinInt}
}

// wrongCounts are those that are neither lags nor orders.
func wrongCounts() []int {
	return []int{-1, -2, -12, api.MaxOrder + 1, api.MaxOrder + 2, 64, 1 << 31, 1 << 32, 1<<32 + 1, -1 << 32, math.MaxInt, math.MaxInt - 1, math.MinInt + 1, math.MinInt}
}

// with answers l with v at place i instead.
func with(l []int, i, v int) []int {
	l = slices.Clone(l)
	l[i] = v
	return l
}

// aside answers l with numbers around it that are no part of it, and all of that memory; of a list with them, another thing would be told or refused.
func aside(l []int) (row, memory []int) {
	memory = slices.Concat([]int{4095, 77}, l, []int{5, 4096, math.MinInt, 1<<60 + 1, api.High + 1, math.MaxInt})
	return memory[2 : 2+len(l)], memory
}

func checkAuto(t *testing.T, x []int, lags int, want []int, wantErr api.Errno) {
	t.Helper()
	if got, err := Auto(x, lags); err != wantErr || !slices.Equal(got, want) {
		t.Error(x, lags, "answer", got, err, "wanted", want, wantErr)
	}
}

func checkScaled(t *testing.T, r, want []int, wantShift int) {
	t.Helper()
	if got, s := Scaled(r); s != wantShift || !slices.Equal(got, want) {
		t.Error(r, "answer", got, s, "wanted", want, wantShift)
	}
}

func checkCoefficients(t *testing.T, x []int, order int, want []int, wantOk bool) {
	t.Helper()
	if got, ok := Coefficients(x, order); ok != wantOk || !slices.Equal(got, want) {
		t.Error(x, order, "answer", got, ok, "wanted", want, wantOk)
	}
}

// checkSuited holds Coefficients against the model.
func checkSuited(t *testing.T, x []int, order int) {
	t.Helper()
	want, ok := suited(x, order)
	checkCoefficients(t, x, order, want, ok)
}

func TestAuto(t *testing.T) {
	checkAuto(t, []int{1, 2, 3}, 1, []int{14, 8}, api.OK)
	checkAuto(t, []int{1, 2, 3}, 0, []int{14}, api.OK)
	checkAuto(t, []int{1, 2, 3}, 2, []int{14, 8, 3}, api.OK)
	checkAuto(t, []int{1, -1, 1, -1}, 3, []int{4, -3, 2, -1}, api.OK)
	checkAuto(t, []int{5, 0, 0, -7}, 4, []int{74, 0, 0, -35, 0}, api.OK)
}

func TestAutoOfEveryLength(t *testing.T) {
	for count := range api.MaxBlock + 1 {
		for _, x := range someSamples(count) {
			for lags := range api.MaxOrder + 1 {
				checkAuto(t, x, lags, products(x, lags), api.OK)
			}
		}
	}
}

// TestAutoOfMoreLagsThanSamples: a lag for which there are no two samples has a sum of nought, and none is left out.
func TestAutoOfMoreLagsThanSamples(t *testing.T) {
	checkAuto(t, []int{1, 2, 3}, 3, []int{14, 8, 3, 0}, api.OK)
	checkAuto(t, []int{1, 2, 3}, 4, []int{14, 8, 3, 0, 0}, api.OK)
	checkAuto(t, []int{-9}, 0, []int{81}, api.OK)
	checkAuto(t, []int{-9}, 1, []int{81, 0}, api.OK)
	for lags := range api.MaxOrder + 1 {
		checkAuto(t, nil, lags, make([]int, lags+1), api.OK)
		checkAuto(t, []int{}, lags, make([]int, lags+1), api.OK)
		checkAuto(t, []int{3}, lags, with(make([]int, lags+1), 0, 9), api.OK)
		if lags > 0 {
			x := numbers(lags, lags, 1, 99)
			if got, err := Auto(x, lags); err != api.OK || len(got) != lags+1 || got[lags] != 0 || got[lags-1] != x[0]*x[lags-1] {
				t.Error(x, got, err)
			}
		}
	}
}

func TestAutoOfTheGreatestSums(t *testing.T) {
	low, high := slices.Repeat([]int{api.Low}, 64), slices.Repeat([]int{api.High}, 64)
	for lags := range api.MaxOrder + 1 {
		var lows, highs []int
		for k := range lags + 1 {
			lows, highs = append(lows, (64-k)<<46), append(highs, (64-k)*api.High*api.High)
		}
		checkAuto(t, low, lags, lows, api.OK)
		checkAuto(t, high, lags, highs, api.OK)
	}
	checkAuto(t, turns(64, api.Low, api.High), 1, []int{32<<46 + 32*api.High*api.High, 63 * api.Low * api.High}, api.OK)
}

func TestAutoOfWrongLags(t *testing.T) {
	for _, lags := range wrongCounts() {
		for _, x := range [][]int{nil, {1}, {1, 2, 3}, waves(64, 1), waves(65, 1), {api.High + 1}} {
			checkAuto(t, x, lags, nil, api.ErrArg)
		}
	}
}

func TestAutoOfWrongSamples(t *testing.T) {
	for _, wrong := range wrongSamples() {
		for _, lags := range []int{0, 1, 11, 12} {
			for _, count := range []int{1, 2, 13, 64} {
				for i := range count {
					checkAuto(t, with(waves(count, i), i, wrong), lags, nil, api.ErrSample)
				}
			}
		}
	}
	checkAuto(t, []int{api.Low}, 0, []int{1 << 46}, api.OK)
	checkAuto(t, []int{api.High}, 0, []int{api.High * api.High}, api.OK)
}

func TestAutoOfTooManySamples(t *testing.T) {
	for lags := range api.MaxOrder + 1 {
		checkAuto(t, make([]int, 64), lags, make([]int, lags+1), api.OK)
		for _, count := range []int{65, 66, 128, 1 << 16} {
			checkAuto(t, make([]int, count), lags, nil, api.ErrLimit)
			checkAuto(t, waves(count, lags), lags, nil, api.ErrLimit)
		}
	}
}

func TestAutoAnswersTheFirstOfSeveralErrors(t *testing.T) {
	for _, wrong := range wrongSamples() {
		for i := range 65 {
			x := with(waves(65, i), i, wrong)
			checkAuto(t, x, 12, nil, api.ErrSample)
			checkAuto(t, x, 13, nil, api.ErrArg)
			checkAuto(t, x, -1, nil, api.ErrArg)
			checkAuto(t, x[:i+1], -1, nil, api.ErrArg)
		}
		checkAuto(t, with(make([]int, 5000), 4999, wrong), 0, nil, api.ErrSample)
	}
	checkAuto(t, make([]int, 65), -1, nil, api.ErrArg)
	checkAuto(t, make([]int, 65), 13, nil, api.ErrArg)
}

func TestScaled(t *testing.T) {
	for _, r := range []struct{ first, want, s int }{
		{0, 0, 0}, {1, 1, 0}, {1<<29 - 1, 1<<29 - 1, 0}, {1 << 29, 1 << 29, 0}, {1<<30 - 1, 1<<30 - 1, 0},
		{1 << 30, 1 << 29, 1}, {1<<30 + 1, 1 << 29, 1}, {1<<31 - 2, 1<<30 - 1, 1}, {1<<31 - 1, 1<<30 - 1, 1},
		{1 << 31, 1 << 29, 2}, {1<<31 + 3, 1 << 29, 2}, {1<<31 + 4, 1<<29 + 1, 2}, {1<<32 - 1, 1<<30 - 1, 2}, {1 << 32, 1 << 29, 3},
		{64 << 46, 1 << 29, 23}, {1<<60 - 1, 1<<30 - 1, 30}, {1 << 60, 1 << 29, 31},
	} {
		checkScaled(t, []int{r.first}, []int{r.want}, r.s)
		checkScaled(t, []int{r.first, 0, r.first, 0}, []int{r.want, 0, r.want, 0}, r.s)
	}
	checkScaled(t, []int{14, 8}, []int{14, 8}, 0)
	checkScaled(t, []int{1 << 30, 7, 8, 9}, []int{1 << 29, 3, 4, 4}, 1)
}

func TestScaledRoundsDown(t *testing.T) {
	checkScaled(t, []int{1 << 30, -1, -2, -3, -4, 1, 3}, []int{1 << 29, -1, -1, -2, -2, 0, 1}, 1)
	checkScaled(t, []int{1 << 31, -1, -3, -4, -5, -8, -9}, []int{1 << 29, -1, -1, -1, -2, -2, -3}, 2)
	checkScaled(t, []int{1 << 60, -1, -1 << 31, -1<<31 - 1, 1<<31 - 1, -1 << 60}, []int{1 << 29, -1, -1, -2, 0, -1 << 29}, 31)
	// The first one alone says how much; others may stay great.
	checkScaled(t, []int{0, 1 << 60, -1 << 60, 1 << 30, -1}, []int{0, 1 << 60, -1 << 60, 1 << 30, -1}, 0)
	checkScaled(t, []int{1<<30 - 1, 1 << 60, -1 << 60, 1 << 40, -1}, []int{1<<30 - 1, 1 << 60, -1 << 60, 1 << 40, -1}, 0)
	checkScaled(t, []int{1 << 30, 1 << 60, -1 << 60, 1 << 40, -1}, []int{1 << 29, 1 << 59, -1 << 59, 1 << 39, -1}, 1)
}

func TestScaledOfEverySize(t *testing.T) {
	for size := range 61 {
		for _, first := range []int{1<<size - 1, 1 << size, (1 << size) / 3} {
			for count := range 20 {
				r := append([]int{first}, numbers(count, size+count, -1<<29, 1<<29)...)
				want, s := shrunk(r)
				checkScaled(t, r, want, s)
				r = append(r, first, -first, 1<<60, -1<<60)
				want, s = shrunk(r)
				checkScaled(t, r, want, s)
			}
		}
	}
	for count := range api.MaxBlock + 1 {
		for _, x := range someSamples(count) {
			r := products(x, api.MaxOrder)
			want, s := shrunk(r)
			checkScaled(t, r, want, s)
		}
	}
	long := numbers(5000, 1, -1<<29, 1<<29)
	checkScaled(t, append([]int{1<<30 - 1}, long...), append([]int{1<<30 - 1}, long...), 0)
}

func TestScaledOfNone(t *testing.T) {
	checkScaled(t, nil, nil, 0)
	checkScaled(t, []int{}, nil, 0)
}

func TestScaledOfAFirstBelowNought(t *testing.T) {
	for _, first := range []int{-1, -2, -1 << 30, -1 << 31, -1 << 60, -1<<60 - 1, math.MinInt + 1, math.MinInt} {
		checkScaled(t, []int{first}, nil, 0)
		checkScaled(t, []int{first, 5, -5, 0}, nil, 0)
	}
}

func TestScaledOfTooGreatNumbers(t *testing.T) {
	for _, wrong := range []int{1<<60 + 1, -1<<60 - 1, 1 << 61, -1 << 61, 1 << 62, -1 << 62, math.MaxInt, math.MaxInt - 1, math.MinInt + 1, math.MinInt} {
		checkScaled(t, []int{wrong}, nil, 0)
		for _, first := range []int{0, 5, 1<<30 - 1, 1 << 30, 1 << 60} {
			for count := 1; count < 20; count++ {
				r := append([]int{first}, numbers(count, count, -9, 9)...)
				for i := range r {
					checkScaled(t, with(r, i, wrong), nil, 0)
				}
			}
		}
	}
}

func TestCoefficients(t *testing.T) {
	// The sums are 14 and 8: 32768 over 14.
	checkCoefficients(t, []int{1, 2, 3}, 1, []int{2340}, true)
	// The sums are 3 and -2: -8192 over 3, rounded down.
	checkCoefficients(t, []int{1, -1, 1}, 1, []int{-2731}, true)
	// The sums are 3, 2, 1. At first k is 2730, and e is 3 less 1819 times 3 over 4096: 2. Then k is 4096 less 5460 over 2: -682, and 2730 is less by -455.
	checkCoefficients(t, []int{1, 1, 1}, 2, []int{3185, -682}, true)
	// The sums are 3, -2, 1. At first k is -2731, and e is 3 less 1820 times 3 over 4096: 2. Then k is 4096 less 5462 over 2: -683, and -2731 is less by 455.
	checkCoefficients(t, []int{1, -1, 1}, 2, []int{-3186, -683}, true)
	// Samples that have nothing to do with each other.
	checkCoefficients(t, []int{7, 0, 0, 0}, 3, []int{0, 0, 0}, true)
	// The sums are 2, 0, 1.
	checkCoefficients(t, []int{1, 0, 1}, 2, []int{0, 2048}, true)
}

func TestCoefficientsOfEveryLength(t *testing.T) {
	for count := 2; count <= api.MaxBlock; count++ {
		for _, x := range someSamples(count) {
			for order := 1; order <= min(api.MaxOrder, count-1); order++ {
				checkSuited(t, x, order)
			}
		}
	}
}

func TestCoefficientsOfManySamples(t *testing.T) {
	for seed := range 3000 {
		count := 2 + seed%63
		size := 1 << (seed % 24)
		for _, x := range [][]int{numbers(count, seed, -size, size-1), hill(count, float64(size-1), 1+float64(seed%80)/10, float64(seed%32)/10)} {
			checkSuited(t, x, 1+seed%min(api.MaxOrder, count-1))
		}
	}
}

func TestCoefficientsAreAsManyAsTheOrder(t *testing.T) {
	x := waves(64, 3)
	for order := 1; order <= api.MaxOrder; order++ {
		if got, ok := Coefficients(x, order); !ok || len(got) != order {
			t.Error(order, got, ok)
		}
	}
}

func TestCoefficientsOfWrongOrders(t *testing.T) {
	for _, order := range append(wrongCounts(), 0) {
		for _, x := range [][]int{nil, {1}, {1, 2, 3}, waves(20, 1), waves(64, 1), waves(65, 1)} {
			checkCoefficients(t, x, order, nil, false)
		}
	}
}

func TestCoefficientsOfFewSamples(t *testing.T) {
	for order := 1; order <= api.MaxOrder; order++ {
		for count := range order + 1 {
			checkCoefficients(t, numbers(count, order, 1, 9), order, nil, false)
		}
		x := numbers(order+1, order, 1, 9)
		want, ok := suited(x, order)
		if !ok {
			t.Fatal(x)
		}
		checkCoefficients(t, x, order, want, true)
	}
	checkCoefficients(t, nil, 1, nil, false)
	checkCoefficients(t, []int{}, 12, nil, false)
}

func TestCoefficientsOfNoughts(t *testing.T) {
	for order := 1; order <= api.MaxOrder; order++ {
		for _, count := range []int{order + 1, 20, 64} {
			checkCoefficients(t, make([]int, count), order, nil, false)
			// A single 1 is enough: what is left over never falls below 1.
			for _, i := range []int{0, 1, count - 1} {
				checkCoefficients(t, with(make([]int, count), i, 1), order, make([]int, order), true)
				checkCoefficients(t, with(make([]int, count), i, -1), order, make([]int, order), true)
			}
		}
	}
}

func TestCoefficientsOfWrongSamples(t *testing.T) {
	for _, wrong := range wrongSamples() {
		for order := 1; order <= api.MaxOrder; order++ {
			for _, count := range []int{order + 1, 20, 64, 65} {
				for i := range count {
					checkCoefficients(t, with(waves(count, i), i, wrong), order, nil, false)
				}
			}
		}
	}
	for _, bound := range []int{api.Low, api.High} {
		for i := range 20 {
			checkSuited(t, with(numbers(20, i, -1<<20, 1<<20), i, bound), 12)
		}
		checkCoefficients(t, []int{bound, 0}, 1, []int{0}, true)
		checkCoefficients(t, []int{0, bound}, 1, []int{0}, true)
	}
}

func TestCoefficientsOfTooManySamples(t *testing.T) {
	for order := 1; order <= api.MaxOrder; order++ {
		if _, ok := Coefficients(waves(64, order), order); !ok {
			t.Error(order)
		}
		for _, count := range []int{65, 66, 128, 1 << 16} {
			checkCoefficients(t, waves(count, order), order, nil, false)
		}
	}
}

// TestCoefficientsOfKsThatAreCut has in one of the steps just the k that is named, ahead of the cut, and at its bounds.
func TestCoefficientsOfKsThatAreCut(t *testing.T) {
	for _, r := range []struct {
		order, uncut int
		x            []int
	}{
		{11, 4095, []int{0, 1, 2, 5, 7, 10, 13, 15, 16, 16, 15, 13, 10, 7, 5, 2, 1, 0}},
		{11, 4096, []int{1, 73, 561, 1976, 4632, 8319, 12235, 15250, 16384, 15250, 12235, 8319, 4632, 1976, 561, 73, 1}},
		{10, 4096, []int{0, 6, 64, 274, 709, 1303, 1834, 2048, 1834, 1303, 709, 274, 64, 6, 0}},
		{6, -4095, []int{5, -83, 255, -435, 512, -435, 255, -83, 5}},
		{5, -4095, []int{0, -1, 11, -41, 87, -123, 123, -87, 41, -11, 1, 0}},
		{4, -4096, []int{7, -55, 130, -204, 250, -250, 204, -130, 55, -7}},
	} {
		met := false
		for _, s := range steps(r.x, r.order) {
			met = met || s.uncut.Cmp(number(r.uncut)) == 0
		}
		if !met {
			t.Error(r, "no such k")
		}
		for order := 1; order <= min(api.MaxOrder, len(r.x)-1); order++ {
			checkSuited(t, r.x, order)
		}
	}
}

// TestCoefficientsBehindACut: lists that are told though a k was cut on the way, on either side.
func TestCoefficientsBehindACut(t *testing.T) {
	for _, r := range []struct {
		order int
		above bool
		x     []int
	}{
		{8, true, []int{0, 5, -20, 39, -48, 39, -20, 5, 0}},
		{7, true, []int{0, 7, -27, 50, -57, 42, -19, 4, 0}},
		{7, false, []int{0, 7, -27, 50, -57, 42, -19, 4, 0}},
		{8, false, []int{0, 4, -21, 48, -63, 52, -25, 5, 0}},
	} {
		met := false
		for _, s := range steps(r.x, r.order) {
			met = met || r.above && s.uncut.Cmp(number(4095)) > 0 || !r.above && s.uncut.Cmp(number(-4095)) < 0
		}
		want, ok := suited(r.x, r.order)
		if !met || !ok {
			t.Error(r, want, ok, "is not cut, or not told")
		}
		checkCoefficients(t, r.x, r.order, want, ok)
	}
}

// TestCoefficientsAtTheBounds: each list has just that number as its least or its greatest in the end, and all others may be.
func TestCoefficientsAtTheBounds(t *testing.T) {
	for _, r := range []struct {
		order, edge int
		x           []int
	}{
		{7, -32768, []int{0, 0, 3, -37, 129, -212, 189, -88, 18, -1, 0}},
		{6, -32768, []int{468, -17274, 69366, -122591, 122591, -69366, 17274, -468}},
		{5, -32769, []int{8, -44, 94, -147, 196, -233, 253, -253, 233, -196, 147, -94, 44, -8}},
		{6, -32769, []int{90, -1619, 4923, -7765, 7765, -4923, 1619, -90}},
		{12, -32769, []int{0, 0, 1, -9, 28, -52, 64, -52, 28, -9, 1, 0, 0}},
		{12, 32767, []int{0, 1, 5, 13, 23, 36, 48, 58, 63, 63, 58, 48, 36, 23, 13, 5, 1, 0}},
		{10, 32767, []int{1, -43, 208, -544, 1018, -1520, 1904, -2048, 1904, -1520, 1018, -544, 208, -43, 1}},
		{12, 32768, []int{0, 0, 0, 0, 0, 2, 6, 13, 27, 46, 70, 94, 115, 126, 126, 115, 94, 70, 46, 27, 13, 6, 2, 0, 0, 0, 0, 0}},
		{10, 32768, []int{16, -207, 626, -1178, 1695, -2006, 2006, -1695, 1178, -626, 207, -16}},
	} {
		coefs := steps(r.x, r.order)[r.order-1].coefs
		beyond := slices.DeleteFunc(slices.Clone(coefs), func(c int) bool { return c == r.edge })
		if !slices.Contains(coefs, r.edge) || !fit(beyond) {
			t.Error(r, coefs, "are not at the edge")
		}
		if r.edge == -32768 || r.edge == 32767 {
			checkCoefficients(t, r.x, r.order, coefs, true)
		} else {
			checkCoefficients(t, r.x, r.order, nil, false)
		}
	}
}

// TestCoefficientsThatMayBeAgain: those behind the last step count, not those on the way.
func TestCoefficientsThatMayBeAgain(t *testing.T) {
	for _, r := range []struct {
		order int
		x     []int
	}{
		{8, []int{0, 6, -23, 45, -55, 45, -23, 6, 0}},
		{7, []int{0, -1, 6, -16, 25, -24, 14, -4, 0}},
		{8, []int{1, -20, 81, -186, 315, -433, 503, -503, 433, -315, 186, -81, 20, -1}},
		{11, []int{2033, -26481, 80186, -150871, 217009, -256823, 256823, -217009, 150871, -80186, 26481, -2033}},
	} {
		l := steps(r.x, r.order)
		if !slices.ContainsFunc(l, func(s step) bool { return !fit(s.coefs) }) || !fit(l[r.order-1].coefs) {
			t.Error(r, l, "are not out of the bounds on the way alone")
		}
		checkCoefficients(t, r.x, r.order, l[r.order-1].coefs, true)
	}
}

// TestCoefficientsOfAllPairs: each k, and the quotients on both sides of nought, of short lists that are gone through one by one.
func TestCoefficientsOfAllPairs(t *testing.T) {
	for a := -6; a <= 6; a++ {
		for b := -6; b <= 6; b++ {
			checkSuited(t, []int{a, b}, 1)
			for c := -6; c <= 6; c++ {
				checkSuited(t, []int{a, b, c}, 1)
				checkSuited(t, []int{a, b, c}, 2)
				checkSuited(t, []int{a, b, c, -a, b + c}, 4)
			}
		}
	}
}

// checkMemory makes a call with a list that has other numbers around it: it answers as of the list alone, and all that memory stays as it was, also when the answer is overwritten.
func checkMemory(t *testing.T, l []int, call func(l []int) ([]int, int)) {
	t.Helper()
	want, wantBeside := call(slices.Clip(slices.Clone(l)))
	row, memory := aside(l)
	before := slices.Clone(memory)
	got, beside := call(row)
	again, _ := call(row)
	if beside != wantBeside || !slices.Equal(got, want) {
		t.Error(l, "answer", got, beside, "wanted", want, wantBeside)
	}
	got = got[:cap(got)]
	for i := range got {
		got[i] = 31
	}
	if !slices.Equal(memory, before) {
		t.Error(l, "became", memory)
	}
	clear(memory)
	if !slices.Equal(again, want) {
		t.Error(l, "answered", again, "wanted", want)
	}
}

func TestCallsLeaveWhatIsHandedIn(t *testing.T) {
	lists := [][]int{nil, {0}, {-1}, {1}, {1, 2, 3}, {14, 8}, {1<<30 - 1, -3}, {1 << 30, -3, 3}, {1 << 60, 1}, {1<<60 + 1, 1}, {5, math.MinInt},
		{api.High + 1, 2, 3}, {1, 2, api.Low - 1}, waves(12, 1), waves(13, 1), waves(63, 1), waves(64, 1), waves(65, 1), make([]int, 64), {0, -9, 35, -60, 60, -35, 9, 0}}
	for _, l := range lists {
		checkMemory(t, l, Scaled)
		for _, count := range []int{-1, 0, 1, 2, 6, 12, 13} {
			checkMemory(t, l, func(x []int) ([]int, int) {
				r, err := Auto(x, count)
				return r, int(err)
			})
			checkMemory(t, l, func(x []int) ([]int, int) {
				a, ok := Coefficients(x, count)
				if ok {
					return a, 1
				}
				return a, 0
			})
		}
	}
}

func TestNothingBeside(t *testing.T) {
	for _, x := range [][]int{{1, 2, api.High + 1}, make([]int, 65), waves(65, 1)} {
		if got, err := Auto(x, 2); err == api.OK || len(got) != 0 {
			t.Error(x, got, err)
		}
	}
	if got, err := Auto([]int{1, 2}, 13); err == api.OK || len(got) != 0 {
		t.Error(got, err)
	}
	for _, r := range [][]int{nil, {-1, 5}, {1 << 40, 5, 1<<60 + 1}, {1 << 61}} {
		if got, s := Scaled(r); len(got) != 0 || s != 0 {
			t.Error(r, got, s)
		}
	}
	// All but the last check may have been passed by then.
	for _, x := range [][]int{{0, 0}, {0, -9, 35, -60, 60, -35, 9, 0}, {1, 2}, {1, 2, 3, 4, 5, 6, 7, 8, api.Low - 1}, waves(65, 2)} {
		if got, ok := Coefficients(x, 6); ok || len(got) != 0 {
			t.Error(x, got, ok)
		}
	}
}

func TestSameAnswersAgain(t *testing.T) {
	x := waves(64, 9)
	for order := 1; order <= api.MaxOrder; order++ {
		for range 3 {
			checkAuto(t, x, order, products(x, order), api.OK)
			checkAuto(t, x, -order, nil, api.ErrArg)
			want, s := shrunk(products(x, order))
			checkScaled(t, products(x, order), want, s)
			checkScaled(t, []int{-order}, nil, 0)
			checkSuited(t, x, order)
			checkCoefficients(t, x[:order], order, nil, false)
		}
	}
}
