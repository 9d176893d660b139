package lpc

import (
	"math"
	"math/big"
	"slices"
	"testing"

	"overdub/api"
)

// sum is the model of what Guess rounds, before it is over 2^Shift: in numbers without bounds, straight from the document's words.
func sum(past, coefs []int) *big.Int {
	total := new(big.Int)
	for i, c := range coefs {
		if i == api.MaxOrder || i == len(past) {
			break
		}
		n := big.NewInt(int64(past[len(past)-1-i]))
		if c < -32768 || c > 32767 || new(big.Int).Abs(n).Cmp(big.NewInt(1<<24)) > 0 {
			continue
		}
		total.Add(total, n.Mul(n, big.NewInt(int64(c))))
	}
	return total
}

// guessed is the model of Guess. Div rounds down, as 4096 is above 0.
func guessed(past, coefs []int) int {
	return int(new(big.Int).Div(sum(past, coefs), big.NewInt(4096)).Int64())
}

// lefts is the model of Residual where there is no error.
func lefts(x, coefs []int) []int {
	var l []int
	for i := len(coefs); i < len(x); i++ {
		l = append(l, x[i]-guessed(x[i-len(coefs):i], coefs))
	}
	return l
}

// numbers answers count numbers from low to high, differently for each seed.
func numbers(count, seed, low, high int) []int {
	l := make([]int, count)
	for i := range l {
		seed = (seed*1103515245 + 12345) % (1 << 31)
		l[i] = low + (seed>>3)%(high-low+1)
	}
	return l
}

func waves(count, seed int) []int {
	return numbers(count, seed, api.Low, api.High)
}

// turns answers count numbers, one and other by turns.
func turns(count, one, other int) []int {
	l := make([]int, count)
	for i := range l {
		l[i] = one
		if i%2 == 1 {
			l[i] = other
		}
	}
	return l
}

// someCoefs are lists of coefficients of every length that may be, among them with the edges.
func someCoefs() [][]int {
	var l [][]int
	for count := 1; count <= api.MaxOrder; count++ {
		l = append(l, numbers(count, count, -32768, 32767), numbers(count, count+100, -9, 9), turns(count, -32768, 32767), turns(count, 32767, -32768))
		l = append(l, slices.Repeat([]int{-32768}, count), slices.Repeat([]int{32767}, count), make([]int, count))
	}
	return append(l, []int{4096}, []int{1}, []int{-1}, []int{8192, -4096}, []int{12288, -12288, 4096}, []int{0, 4096})
}

// someSamples are lists of count samples, among them with the edges.
func someSamples(count int) [][]int {
	return [][]int{waves(count, count+1), numbers(count, count+7, -20, 20), turns(count, api.Low, api.High), turns(count, api.High, api.Low),
		slices.Repeat([]int{api.Low}, count), slices.Repeat([]int{api.High}, count), make([]int, count)}
}

func wrongSamples() []int {
	return []int{api.Low - 1, api.High + 1, 1 << 24, -1 << 24, 1<<24 + 1, -1<<24 - 1, 1 << 31, 1 << 32, -1 << 32, math.MaxInt, math.MaxInt - 1, math.MinInt + 1, math.MinInt}
}

func wrongCoefs() []int {
	return []int{-32769, 32768, -32770, 32769, 65535, 65536, -65536, 1 << 32, 1<<32 + 1, -1 << 32, math.MaxInt, math.MaxInt - 1, math.MinInt + 1, math.MinInt}
}

// with answers l with v at place i instead.
func with(l []int, i, v int) []int {
	l = slices.Clone(l)
	l[i] = v
	return l
}

// aside answers l with numbers around it that are no part of it, and all of that memory; of a list with them, another thing would be told or refused.
func aside(l []int) (row, memory []int) {
	memory = slices.Concat([]int{4095, 77}, l, []int{5, 4096, math.MinInt, 32768, api.High + 1, math.MaxInt})
	return memory[2 : 2+len(l)], memory
}

func checkGuess(t *testing.T, past, coefs []int, want int) {
	t.Helper()
	if got := Guess(past, coefs...); got != want {
		t.Error(past, coefs, "answer", got, "wanted", want)
	}
}

func checkResidual(t *testing.T, x, coefs, want []int, wantErr api.Errno) {
	t.Helper()
	if got, err := Residual(x, coefs...); err != wantErr || !slices.Equal(got, want) {
		t.Error(x, coefs, "answer", got, err, "wanted", want, wantErr)
	}
}

func checkRestore(t *testing.T, warm, residual, coefs, want []int, wantErr api.Errno) {
	t.Helper()
	if got, err := Restore(warm, residual, coefs...); err != wantErr || !slices.Equal(got, want) {
		t.Error(warm, residual, coefs, "answer", got, err, "wanted", want, wantErr)
	}
}

func TestGuess(t *testing.T) {
	if got := Guess([]int{10, 20}, 4096); got != 20 {
		t.Error(got)
	}
	if got := Guess([]int{10, 20}, 8192, -4096); got != 30 {
		t.Error(got)
	}
	checkGuess(t, []int{10, 20}, []int{0, 4096}, 10)
	checkGuess(t, []int{1, 4, 9, 16}, []int{12288, -12288, 4096}, 25)
	checkGuess(t, []int{7, -3}, []int{2048, 1024}, 0)
	checkGuess(t, []int{100, -100}, []int{-4096, 4096}, 200)
}

func TestGuessRoundsDown(t *testing.T) {
	for _, r := range []struct{ number, want int }{
		{0, 0}, {1, 0}, {4095, 0}, {4096, 1}, {4097, 1}, {8191, 1}, {8192, 2},
		{-1, -1}, {-4095, -1}, {-4096, -1}, {-4097, -2}, {-8191, -2}, {-8192, -2}, {-8193, -3},
	} {
		checkGuess(t, []int{r.number}, []int{1}, r.want)
		checkGuess(t, []int{-r.number}, []int{-1}, r.want)
		// The sum is rounded, not each of its parts.
		checkGuess(t, []int{r.number - 5, 5}, []int{1, 1}, r.want)
		checkGuess(t, []int{1 << 24, r.number, -1 << 24}, []int{1, 1, 1}, r.want)
	}
	checkGuess(t, slices.Repeat([]int{1}, 12), slices.Repeat([]int{4095}, 12), 11)
	checkGuess(t, slices.Repeat([]int{-1}, 12), slices.Repeat([]int{4095}, 12), -12)
}

func TestGuessOfEveryLength(t *testing.T) {
	for _, coefs := range append(someCoefs(), numbers(13, 5, -32768, 32767), numbers(40, 6, -32768, 32767)) {
		for count := range 30 {
			for _, past := range append(someSamples(count), numbers(count, count, -1<<24, 1<<24), numbers(count, count, -1<<25, 1<<25)) {
				checkGuess(t, past, coefs, guessed(past, coefs))
			}
		}
	}
}

// TestGuessOfShortAndLongPast: where past ends, the coefficients that are left count for nothing; of a longer past only its end counts.
func TestGuessOfShortAndLongPast(t *testing.T) {
	checkGuess(t, []int{3}, []int{4096, 32767, -32768}, 3)
	checkGuess(t, []int{5, 3}, []int{4096, 4096, 32767}, 8)
	checkGuess(t, []int{1 << 20, -7, 5, 3}, []int{4096, 4096}, 8)
	for _, coefs := range someCoefs() {
		past := waves(api.MaxOrder, len(coefs))
		for count := range past {
			checkGuess(t, past[count:], coefs, Guess(slices.Concat(make([]int, 20), past[count:]), coefs...))
		}
		checkGuess(t, slices.Concat(waves(100, 1), past), coefs, Guess(past, coefs...))
	}
}

func TestGuessOfNothing(t *testing.T) {
	if got := Guess(nil); got != 0 {
		t.Error(got)
	}
	for _, none := range [][]int{nil, {}} {
		checkGuess(t, none, none, 0)
		for _, l := range [][]int{{-1}, {4096}, waves(12, 1), waves(64, 1), turns(12, -32768, 32767), {math.MinInt}} {
			checkGuess(t, l, none, 0)
			checkGuess(t, none, l, 0)
		}
	}
}

func TestGuessTakesMaxOrderAtMost(t *testing.T) {
	for count := 13; count <= 30; count++ {
		past := append([]int{9}, make([]int, 11)...)
		// The last coefficient that counts meets the 9, or a nought.
		coefs := with(make([]int, count), 11, 4096)
		checkGuess(t, past, coefs, 9)
		checkGuess(t, append(past, 0), coefs, 0)
		checkGuess(t, append(past, 0), with(make([]int, count), 12, 4096), 0)
		checkGuess(t, slices.Repeat([]int{9}, count), slices.Repeat([]int{4096}, count), 9*api.MaxOrder)
		checkGuess(t, slices.Repeat([]int{9}, count), with(slices.Repeat([]int{4096}, count), count-1, math.MaxInt), 9*api.MaxOrder)
	}
	checkGuess(t, slices.Repeat([]int{9}, 1<<16), slices.Repeat([]int{4096}, 1<<16), 9*api.MaxOrder)
	checkGuess(t, slices.Repeat([]int{9}, 12), slices.Repeat([]int{4096}, 12), 9*12)
	checkGuess(t, slices.Repeat([]int{9}, 11), slices.Repeat([]int{4096}, 12), 9*11)
}

func TestGuessOfCoefficientsAtTheBounds(t *testing.T) {
	checkGuess(t, []int{4096}, []int{-32768}, -32768)
	checkGuess(t, []int{4096}, []int{32767}, 32767)
	for _, wrong := range wrongCoefs() {
		checkGuess(t, []int{4096}, []int{wrong}, 0)
		checkGuess(t, []int{1 << 24}, []int{wrong}, 0)
		checkGuess(t, []int{-1 << 24}, []int{wrong}, 0)
		// It counts as 0, but keeps its place.
		checkGuess(t, []int{5, 7}, []int{wrong, 4096}, 5)
		checkGuess(t, []int{5, 7}, []int{4096, wrong}, 7)
		for i := range api.MaxOrder {
			coefs := slices.Repeat([]int{4096}, api.MaxOrder)
			past := waves(api.MaxOrder, i)
			checkGuess(t, past, with(coefs, i, wrong), Guess(past, with(coefs, i, 0)...))
		}
	}
}

func TestGuessOfNumbersAtTheBounds(t *testing.T) {
	checkGuess(t, []int{1 << 24}, []int{4096}, 1<<24)
	checkGuess(t, []int{-1 << 24}, []int{4096}, -1<<24)
	checkGuess(t, []int{1 << 24}, []int{-32768}, -1<<27)
	checkGuess(t, []int{-1 << 24}, []int{-32768}, 1<<27)
	checkGuess(t, []int{1<<24 - 1, -1<<24 + 1}, []int{1, 4096}, 1<<24-1-1<<12)
	for _, wrong := range []int{1<<24 + 1, -1<<24 - 1, 1 << 25, -1 << 25, 1 << 32, -1 << 32, 1<<32 + 1, 1 << 62, -1 << 62, math.MaxInt, math.MaxInt - 1, math.MinInt + 1, math.MinInt} {
		for _, c := range []int{1, -1, 4096, -32768, 32767} {
			checkGuess(t, []int{wrong}, []int{c}, 0)
		}
		checkGuess(t, []int{5, wrong}, []int{4096, 4096}, 5)
		checkGuess(t, []int{wrong, 5}, []int{4096, 4096}, 5)
		for i := range api.MaxOrder {
			past, coefs := waves(api.MaxOrder, i), turns(api.MaxOrder, -32768, 32767)
			checkGuess(t, with(past, i, wrong), coefs, Guess(with(past, i, 0), coefs...))
		}
		for _, c := range wrongCoefs() {
			checkGuess(t, []int{wrong, wrong}, []int{c, c}, 0)
		}
	}
}

// TestGuessOfTheGreatestSums: no sum wraps round.
func TestGuessOfTheGreatestSums(t *testing.T) {
	least, most := slices.Repeat([]int{-32768}, 12), slices.Repeat([]int{32767}, 12)
	for _, count := range []int{12, 13, 64} {
		checkGuess(t, slices.Repeat([]int{1 << 24}, count), least, -12<<27)
		checkGuess(t, slices.Repeat([]int{-1 << 24}, count), least, 12<<27)
		checkGuess(t, slices.Repeat([]int{1 << 24}, count), most, 12<<12*32767)
		checkGuess(t, slices.Repeat([]int{-1 << 24}, count), most, -12<<12*32767)
	}
}

func TestResidual(t *testing.T) {
	x := []int{3, 5, 8, 12, 10}
	// Twice the last one less the one ahead of it.
	if l, err := Residual(x, 8192, -4096); err != api.OK || !slices.Equal(l, []int{1, 1, -6}) {
		t.Error(l, err)
	}
	checkResidual(t, x, []int{4096}, []int{2, 3, 4, -2}, api.OK)
	checkResidual(t, x, []int{0}, []int{5, 8, 12, 10}, api.OK)
	checkResidual(t, x, []int{0, 0, 4096}, []int{9, 5}, api.OK)
	// The guesses are rounded down: 3/4096 to 0, -3/4096 to -1.
	checkResidual(t, []int{3, 0}, []int{1}, []int{0}, api.OK)
	checkResidual(t, []int{-3, 0}, []int{1}, []int{1}, api.OK)
	checkResidual(t, []int{3, 0}, []int{-1}, []int{1}, api.OK)
}

func TestResidualOfEveryLengthAndOrder(t *testing.T) {
	for _, coefs := range someCoefs() {
		for count := range api.MaxBlock + 1 {
			for _, x := range someSamples(count) {
				if len(coefs) <= count {
					checkResidual(t, x, coefs, lefts(x, coefs), api.OK)
				} else {
					checkResidual(t, x, coefs, nil, api.ErrArg)
				}
			}
		}
	}
}

// TestResidualOfTheEdges has the greatest and the least numbers that may be left.
func TestResidualOfTheEdges(t *testing.T) {
	least := slices.Repeat([]int{-32768}, 12)
	low, high := slices.Repeat([]int{api.Low}, 12), slices.Repeat([]int{api.High}, 12)
	checkResidual(t, append(low, api.Low), least, []int{api.Low + 96*api.Low}, api.OK)
	checkResidual(t, append(high, api.High), least, []int{api.High + 96*api.High}, api.OK)
	checkResidual(t, []int{api.Low, api.High}, []int{4096}, []int{api.High - api.Low}, api.OK)
	checkResidual(t, []int{api.High, api.Low}, []int{4096}, []int{api.Low - api.High}, api.OK)
}

// TestResidualOfAsManyCoefficientsAsSamples: nothing is left; with one sample less there may be none.
func TestResidualOfAsManyCoefficientsAsSamples(t *testing.T) {
	for count := 1; count <= api.MaxOrder; count++ {
		coefs := numbers(count, count, -32768, 32767)
		checkResidual(t, waves(count, 1), coefs, nil, api.OK)
		checkResidual(t, waves(count-1, 1), coefs, nil, api.ErrArg)
	}
	checkResidual(t, nil, []int{4096}, nil, api.ErrArg)
	checkResidual(t, []int{}, make([]int, 12), nil, api.ErrArg)
}

func TestResidualOfCoefficientsThatMayNotBe(t *testing.T) {
	if l, err := Residual([]int{1, 2, 3}); err != api.ErrArg || len(l) != 0 {
		t.Error(l, err)
	}
	for _, x := range [][]int{nil, {1}, waves(12, 1), waves(13, 1), waves(64, 1)} {
		for _, coefs := range [][]int{nil, {}, make([]int, 13), make([]int, 14), make([]int, 64), make([]int, 1<<16)} {
			checkResidual(t, x, coefs, nil, api.ErrArg)
		}
	}
	for count := 1; count <= api.MaxOrder; count++ {
		for i := range count {
			for _, wrong := range wrongCoefs() {
				checkResidual(t, waves(20, i), with(make([]int, count), i, wrong), nil, api.ErrArg)
				checkResidual(t, waves(count, i), with(make([]int, count), i, wrong), nil, api.ErrArg)
			}
			for _, bound := range []int{-32768, 32767} {
				coefs, x := with(make([]int, count), i, bound), waves(20, i)
				checkResidual(t, x, coefs, lefts(x, coefs), api.OK)
			}
		}
	}
}

// TestResidualOfWrongSamples has the wrong one at every place: among the first ones, of which nothing is told, too.
func TestResidualOfWrongSamples(t *testing.T) {
	for _, count := range []int{1, 2, 12, 13, 63, 64} {
		x := waves(count, count)
		for i := range x {
			for _, wrong := range wrongSamples() {
				for order := 1; order <= min(api.MaxOrder, count); order++ {
					checkResidual(t, with(x, i, wrong), numbers(order, i, -32768, 32767), nil, api.ErrSample)
				}
			}
		}
	}
}

func TestResidualOfTooManySamples(t *testing.T) {
	for _, coefs := range someCoefs() {
		x := waves(api.MaxBlock, 3)
		checkResidual(t, x, coefs, lefts(x, coefs), api.OK)
		for _, count := range []int{65, 66, 128, 256, 1000, 1 << 16} {
			checkResidual(t, make([]int, count), coefs, nil, api.ErrLimit)
		}
	}
}

func TestResidualAnswersTheFirstOfSeveralErrors(t *testing.T) {
	for _, wrong := range wrongSamples() {
		long := with(make([]int, 100), 99, wrong)
		for _, coefs := range [][]int{nil, make([]int, 13), {32768}, {0, -32769}, with(make([]int, 12), 11, math.MinInt)} {
			checkResidual(t, []int{0, wrong}, coefs, nil, api.ErrArg)
			checkResidual(t, long, coefs, nil, api.ErrArg)
			checkResidual(t, make([]int, 65), coefs, nil, api.ErrArg)
		}
		for count := 1; count < api.MaxOrder; count++ {
			checkResidual(t, with(make([]int, count), count-1, wrong), make([]int, count+1), nil, api.ErrArg)
		}
		for order := 1; order <= api.MaxOrder; order++ {
			for i := range 100 {
				checkResidual(t, with(make([]int, 100), i, wrong), make([]int, order), nil, api.ErrSample)
			}
			checkResidual(t, with(make([]int, 65), 64, wrong), make([]int, order), nil, api.ErrSample)
		}
	}
}

func TestRestore(t *testing.T) {
	if x, err := Restore([]int{3, 5}, []int{1, 1, -6}, 8192, -4096); err != api.OK || !slices.Equal(x, []int{3, 5, 8, 12, 10}) {
		t.Error(x, err)
	}
	checkRestore(t, []int{3}, []int{2, 3, 4, -2}, []int{4096}, []int{3, 5, 8, 12, 10}, api.OK)
	checkRestore(t, []int{3, 5, 8}, []int{9, 5}, []int{0, 0, 4096}, []int{3, 5, 8, 12, 10}, api.OK)
	checkRestore(t, []int{-3}, []int{1}, []int{1}, []int{-3, 0}, api.OK)
	checkRestore(t, []int{3}, []int{0}, []int{1}, []int{3, 0}, api.OK)
	// Nothing left: the curve goes on as it began.
	checkRestore(t, []int{0, 1, 4}, []int{0, 0, 0}, []int{12288, -12288, 4096}, []int{0, 1, 4, 9, 16, 25}, api.OK)
}

func TestRestoreOfResidual(t *testing.T) {
	for _, coefs := range someCoefs() {
		for count := len(coefs); count <= api.MaxBlock; count++ {
			for _, x := range someSamples(count) {
				residual, err := Residual(x, coefs...)
				if err != api.OK {
					t.Error(x, coefs, err)
				}
				checkRestore(t, x[:len(coefs)], residual, coefs, x, api.OK)
			}
		}
	}
}

func TestRestoreOfNoResidual(t *testing.T) {
	for _, none := range [][]int{nil, {}} {
		for count := 1; count <= api.MaxOrder; count++ {
			warm := turns(count, api.Low, api.High)
			checkRestore(t, warm, none, numbers(count, count, -32768, 32767), warm, api.OK)
		}
		checkRestore(t, none, none, none, nil, api.ErrArg)
	}
}

func TestRestoreOfWarmAndCoefficientsThatMayNotBe(t *testing.T) {
	if x, err := Restore(nil, nil); err != api.ErrArg || len(x) != 0 {
		t.Error(x, err)
	}
	for _, residual := range [][]int{nil, {0}, make([]int, 52), make([]int, 100), {math.MaxInt}} {
		for _, count := range []int{0, 13, 14, 64, 1 << 10} {
			checkRestore(t, make([]int, count), residual, make([]int, count), nil, api.ErrArg)
		}
		for count := 1; count <= api.MaxOrder; count++ {
			for _, other := range []int{0, 1, 12, 13, 64, count - 1, count + 1} {
				if other != count {
					checkRestore(t, make([]int, other), residual, make([]int, count), nil, api.ErrArg)
				}
			}
			for i := range count {
				for _, wrong := range wrongCoefs() {
					checkRestore(t, make([]int, count), residual, with(make([]int, count), i, wrong), nil, api.ErrArg)
				}
			}
		}
	}
}

func TestRestoreOfCoefficientsAtTheBounds(t *testing.T) {
	for count := 1; count <= api.MaxOrder; count++ {
		for i := range count {
			for _, bound := range []int{-32768, 32767} {
				coefs, x := with(make([]int, count), i, bound), waves(20, i)
				checkRestore(t, x[:count], lefts(x, coefs), coefs, x, api.OK)
			}
		}
	}
}

func TestRestoreOfWrongWarmSamples(t *testing.T) {
	for count := 1; count <= api.MaxOrder; count++ {
		for i := range count {
			for _, wrong := range wrongSamples() {
				for _, residual := range [][]int{nil, {0}, {-wrong, wrong}, make([]int, 64-count), make([]int, 65-count)} {
					checkRestore(t, with(make([]int, count), i, wrong), residual, make([]int, count), nil, api.ErrSample)
				}
			}
			checkRestore(t, with(make([]int, count), i, api.Low), nil, make([]int, count), with(make([]int, count), i, api.Low), api.OK)
			checkRestore(t, with(make([]int, count), i, api.High), nil, make([]int, count), with(make([]int, count), i, api.High), api.OK)
		}
	}
}

// checkBound has x with a bound at place i: its residuals lead just there, with one more past it, and with one less to the sample within.
func checkBound(t *testing.T, x, coefs []int, i int) {
	t.Helper()
	order, past := len(coefs), 1
	if x[i] == api.Low {
		past = -1
	}
	residual := lefts(x, coefs)
	checkRestore(t, x[:order], residual, coefs, x, api.OK)
	residual[i-order] += past
	checkRestore(t, x[:order], residual, coefs, nil, api.ErrSample)
	residual[i-order] -= 2 * past
	checkRestore(t, x[:order], residual[:i-order+1], coefs, with(x, i, x[i]-past)[:i+1], api.OK)
}

// TestRestoreToTheBounds has them at the first place and at later ones.
func TestRestoreToTheBounds(t *testing.T) {
	for _, coefs := range someCoefs() {
		for _, count := range []int{len(coefs) + 1, len(coefs) + 2, 64} {
			for i := len(coefs); i < count; i++ {
				checkBound(t, with(waves(count, i), i, api.Low), coefs, i)
				checkBound(t, with(waves(count, i), i, api.High), coefs, i)
			}
		}
	}
}

// TestRestoreOfHugeResiduals: sums that would wrap round are out of the bounds all the same.
func TestRestoreOfHugeResiduals(t *testing.T) {
	huge := []int{math.MaxInt, math.MaxInt - 1, math.MaxInt + api.Low, math.MaxInt - 1<<32, math.MinInt, math.MinInt + 1, math.MinInt + api.High, math.MinInt + 1<<32, 1 << 62, -1 << 62, 1 << 32, -1 << 32}
	for _, left := range huge {
		for _, coefs := range someCoefs() {
			for _, warm := range someSamples(len(coefs)) {
				checkRestore(t, warm, []int{left}, coefs, nil, api.ErrSample)
				checkRestore(t, warm, []int{left, -left}, coefs, nil, api.ErrSample)
			}
			checkRestore(t, make([]int, len(coefs)), []int{0, 0, left, left}, coefs, nil, api.ErrSample)
		}
	}
}

func TestRestoreOfTooManySamples(t *testing.T) {
	for _, coefs := range someCoefs() {
		for _, count := range []int{64, 65, 66, 128, 1000} {
			x := waves(count, len(coefs))
			if count > api.MaxBlock {
				checkRestore(t, x[:len(coefs)], lefts(x, coefs), coefs, nil, api.ErrLimit)
			} else {
				checkRestore(t, x[:len(coefs)], lefts(x, coefs), coefs, x, api.OK)
			}
		}
		checkRestore(t, make([]int, len(coefs)), make([]int, 1<<16), coefs, nil, api.ErrLimit)
	}
}

func TestRestoreAnswersTheFirstOfSeveralErrors(t *testing.T) {
	for _, wrong := range wrongSamples() {
		for _, residual := range [][]int{nil, {wrong}, make([]int, 100)} {
			checkRestore(t, []int{wrong}, residual, nil, nil, api.ErrArg)
			checkRestore(t, []int{wrong}, residual, []int{0, 0}, nil, api.ErrArg)
			checkRestore(t, []int{0, wrong}, residual, []int{0}, nil, api.ErrArg)
			checkRestore(t, []int{wrong}, residual, []int{32768}, nil, api.ErrArg)
			checkRestore(t, []int{0, wrong}, residual, []int{0, -32769}, nil, api.ErrArg)
			checkRestore(t, with(make([]int, 13), 12, wrong), residual, make([]int, 13), nil, api.ErrArg)
		}
		for order := 1; order <= api.MaxOrder; order++ {
			for i := range 100 {
				checkRestore(t, make([]int, order), with(make([]int, 100), i, wrong), make([]int, order), nil, api.ErrSample)
			}
			for _, size := range []int{65 - order, 66 - order, 5000} {
				checkRestore(t, make([]int, order), with(make([]int, size), size-1, wrong), make([]int, order), nil, api.ErrSample)
			}
			checkRestore(t, with(make([]int, order), order-1, wrong), make([]int, 100), make([]int, order), nil, api.ErrSample)
		}
	}
}

// someCalls are lists for all three calls, such that lead to each error and to none.
func someCalls() []struct{ x, residual, coefs []int } {
	return []struct{ x, residual, coefs []int }{
		{nil, nil, nil}, {nil, []int{1, 2, 3}, nil}, {[]int{1}, nil, []int{4096}}, {[]int{1}, []int{1, 2}, []int{4096}},
		{[]int{3, 5}, []int{1, 1, -6}, []int{8192, -4096}}, {[]int{3, 5, 8, 12, 10}, []int{1}, []int{8192, -4096}}, {[]int{7}, []int{1}, []int{1, 2, 3}},
		{waves(12, 1), make([]int, 52), make([]int, 12)}, {waves(12, 1), make([]int, 53), make([]int, 12)}, {waves(13, 1), []int{1}, make([]int, 13)},
		{waves(64, 1), nil, numbers(12, 1, -32768, 32767)}, {waves(65, 1), []int{0}, []int{-32768}}, {waves(20, 1), []int{0}, []int{32768, 5}},
		{[]int{api.Low - 1}, []int{1}, []int{4096}}, {[]int{api.High}, []int{0, 1}, []int{4096}}, {[]int{0, 0, api.High + 1}, []int{1}, []int{1}},
	}
}

// checkMemory makes a call with lists that have other numbers around them: it answers as of the lists alone, and all that memory stays as it was.
func checkMemory(t *testing.T, call func(x, residual, coefs []int) ([]int, api.Errno)) {
	t.Helper()
	for _, r := range someCalls() {
		alone, aloneErr := call(slices.Clip(slices.Clone(r.x)), slices.Clip(slices.Clone(r.residual)), slices.Clip(slices.Clone(r.coefs)))
		x, xMemory := aside(r.x)
		residual, residualMemory := aside(r.residual)
		coefs, coefsMemory := aside(r.coefs)
		before := slices.Concat(xMemory, residualMemory, coefsMemory)
		got, err := call(x, residual, coefs)
		if err != aloneErr || !slices.Equal(got, alone) {
			t.Error(r, got, err)
		}
		clear(got[:cap(got)])
		if after := slices.Concat(xMemory, residualMemory, coefsMemory); !slices.Equal(after, before) {
			t.Error(r, after)
		}
	}
}

func TestCallsLeaveWhatIsHandedIn(t *testing.T) {
	checkMemory(t, func(x, residual, coefs []int) ([]int, api.Errno) { return []int{Guess(x, coefs...)}, api.OK })
	checkMemory(t, func(x, residual, coefs []int) ([]int, api.Errno) { return Residual(x, coefs...) })
	checkMemory(t, func(x, residual, coefs []int) ([]int, api.Errno) { return Restore(x, residual, coefs...) })
}

// TestCallsOfOneListTwice: a list may be handed in at several places.
func TestCallsOfOneListTwice(t *testing.T) {
	for count := 1; count <= api.MaxOrder; count++ {
		l := numbers(count, count, -3000, 3000)
		other := slices.Clone(l)
		checkGuess(t, l, l, guessed(other, other))
		checkResidual(t, l, l, nil, api.OK)
		want, err := Restore(slices.Clone(l), slices.Clone(l), slices.Clone(l)...)
		checkRestore(t, l, l, l, want, err)
		if !slices.Equal(l, other) {
			t.Error(l, other)
		}
	}
}

func TestResidualIsNewMemory(t *testing.T) {
	x := []int{3, 5, 8, 12, 10}
	coefs := []int{8192, -4096}
	one, _ := Residual(x, coefs...)
	other, _ := Residual(x, coefs...)
	clear(one[:cap(one)])
	clear(x)
	clear(coefs)
	if !slices.Equal(other, []int{1, 1, -6}) {
		t.Error(other)
	}
}

func TestRestoreIsNewMemory(t *testing.T) {
	for count := 2; count <= 5; count++ {
		want := []int{3, 5, 8, 12, 10}[:count]
		warm, residual, coefs := []int{3, 5}, []int{1, 1, -6}[:count-2], []int{8192, -4096}
		one, _ := Restore(warm, residual, coefs...)
		other, _ := Restore(warm, residual, coefs...)
		clear(one[:cap(one)])
		clear(warm)
		clear(residual)
		clear(coefs)
		if !slices.Equal(other, want) {
			t.Error(count, other)
		}
	}
}

// TestNothingBesideAnError: also where some of the list could be worked out ahead of the error.
func TestNothingBesideAnError(t *testing.T) {
	for _, x := range [][]int{nil, {0, 0, api.High + 1}, make([]int, 65)} {
		if got, err := Residual(x, 4096); err == api.OK || len(got) != 0 {
			t.Error(x, got, err)
		}
	}
	for _, warm := range [][]int{nil, {api.High}, {0}, {api.Low - 1}, make([]int, 5)} {
		for _, residual := range [][]int{{0, 0, api.High + 1}, make([]int, 64)} {
			if got, err := Restore(warm, residual, 4096); err == api.OK || len(got) != 0 {
				t.Error(warm, residual, got, err)
			}
		}
	}
}

func TestSameAnswersAgain(t *testing.T) {
	x := waves(64, 9)
	for order := 1; order <= api.MaxOrder; order++ {
		coefs := numbers(order, order, -32768, 32767)
		for range 3 {
			checkGuess(t, x, coefs, guessed(x, coefs))
			checkResidual(t, x, coefs, lefts(x, coefs), api.OK)
			checkResidual(t, x, nil, nil, api.ErrArg)
			checkRestore(t, x[:order], lefts(x, coefs), coefs, x, api.OK)
			checkRestore(t, x[:order], []int{math.MaxInt}, coefs, nil, api.ErrSample)
		}
	}
}
