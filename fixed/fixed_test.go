package fixed

import (
	"math"
	"slices"
	"testing"

	"overdub/api"
)

// differences is the model of Residual: a fixed predictor of an order leaves the differences of neighbours, taken as often as the order says.
func differences(x []int, order int) []int {
	l := slices.Clone(x)
	for range order {
		for i := 0; i+1 < len(l); i++ {
			l[i] = l[i+1] - l[i]
		}
		l = l[:len(l)-1]
	}
	return l
}

// waves answers count samples that go up and down between the bounds, differently for each seed.
func waves(count, seed int) []int {
	x := make([]int, count)
	for i := range x {
		seed = (seed*1103515245 + 12345) % (1 << 31)
		x[i] = api.Low + seed>>7
	}
	return x
}

// turns answers count samples, Low and High by turns: their residuals are the greatest and the least.
func turns(count int) []int {
	x := make([]int, count)
	for i := range x {
		x[i] = api.Low
		if i%2 == 1 {
			x[i] = api.High
		}
	}
	return x
}

// someSamples are lists of samples of all lengths that may be, among them with the edges.
func someSamples() [][]int {
	var l [][]int
	for count := 0; count <= api.MaxBlock; count++ {
		l = append(l, waves(count, count+1), turns(count))
		l = append(l, slices.Repeat([]int{api.Low}, count), slices.Repeat([]int{api.High}, count), make([]int, count))
	}
	return append(l, []int{1, 2, 4}, []int{-1, 0, 1, 5, -7}, []int{1, 2, 4, 8, 16, 15}, []int{api.High, api.Low, 0, -1, 1})
}

func wrongSamples() []int {
	return []int{api.Low - 1, api.High + 1, 1 << 24, -1 << 24, 1 << 31, 1 << 32, -1 << 32, math.MaxInt, math.MaxInt - 1, math.MinInt + 1, math.MinInt}
}

func wrongOrders() []int {
	return []int{-1, -2, -4, -5, math.MinInt + 1, math.MinInt, 5, 6, 63, 64, 65, 1 << 32, 1<<32 + 1, math.MaxInt - 1, math.MaxInt}
}

// with answers x with v at place i instead.
func with(x []int, i, v int) []int {
	l := slices.Clone(x)
	l[i] = v
	return l
}

// aside answers l with numbers behind its length that are no part of it, and all of that memory; of a list with them, more would be told or refused.
func aside(l []int) (row, memory []int) {
	memory = append(slices.Clone(l), math.MinInt, 5, api.High+1, 7, math.MaxInt)
	return memory[:len(l)], memory
}

func checkResidual(t *testing.T, x []int, order int, want []int, wantErr api.Errno) {
	t.Helper()
	if got, err := Residual(x, order); err != wantErr || !slices.Equal(got, want) {
		t.Error(x, order, "answer", got, err, "wanted", want, wantErr)
	}
}

func checkRestore(t *testing.T, warm, residual, want []int, wantErr api.Errno) {
	t.Helper()
	if got, err := Restore(warm, residual); err != wantErr || !slices.Equal(got, want) {
		t.Error(warm, residual, "answer", got, err, "wanted", want, wantErr)
	}
}

func TestCoefficients(t *testing.T) {
	for order, want := range [][]int{{}, {1}, {2, -1}, {3, -3, 1}, {4, -6, 4, -1}} {
		if got := Coefficients(order); !slices.Equal(got, want) {
			t.Error(order, got)
		}
	}
}

func TestCoefficientsOfOtherOrders(t *testing.T) {
	for _, order := range wrongOrders() {
		if got := Coefficients(order); len(got) != 0 {
			t.Error(order, got)
		}
	}
}

func TestCoefficientsAreNewMemory(t *testing.T) {
	for order, want := range [][]int{{}, {1}, {2, -1}, {3, -3, 1}, {4, -6, 4, -1}} {
		one, other := Coefficients(order), Coefficients(order)
		clear(one[:cap(one)])
		if !slices.Equal(other, want) || !slices.Equal(Coefficients(order), want) {
			t.Error(order, other)
		}
		if order > 0 {
			x := []int{1, 2, 4, 8, 16, 15}
			checkResidual(t, x, order, differences(x, order), api.OK)
		}
	}
}

func TestResidual(t *testing.T) {
	checkResidual(t, []int{1, 2, 4}, 1, []int{1, 2}, api.OK)
	for order, want := range [][]int{{1, 2, 4, 8, 16, 15}, {1, 2, 4, 8, -1}, {1, 2, 4, -9}, {1, 2, -13}, {1, -15}} {
		checkResidual(t, []int{1, 2, 4, 8, 16, 15}, order, want, api.OK)
	}
	// A predictor leaves nothing of a curve of a lesser degree.
	for order, x := range [][]int{{0, 0, 0, 0, 0, 0}, {9, 9, 9, 9, 9, 9}, {-5, -2, 1, 4, 7, 10}, {0, 1, 4, 9, 16, 25}, {-8, -1, 0, 1, 8, 27}} {
		checkResidual(t, x, order, make([]int, len(x)-order), api.OK)
	}
}

func TestResidualOfTheEdges(t *testing.T) {
	const span = api.High - api.Low
	checkResidual(t, turns(5), 0, []int{api.Low, api.High, api.Low, api.High, api.Low}, api.OK)
	checkResidual(t, turns(5), 1, []int{span, -span, span, -span}, api.OK)
	checkResidual(t, turns(5), 2, []int{-2 * span, 2 * span, -2 * span}, api.OK)
	checkResidual(t, turns(5), 3, []int{4 * span, -4 * span}, api.OK)
	checkResidual(t, turns(5), 4, []int{-8 * span}, api.OK)
}

func TestResidualOfEveryLengthAndOrder(t *testing.T) {
	for _, x := range someSamples() {
		for order := 0; order <= 4; order++ {
			if order <= len(x) {
				checkResidual(t, x, order, differences(x, order), api.OK)
			} else {
				checkResidual(t, x, order, nil, api.ErrArg)
			}
		}
	}
}

func TestResidualOfNoSamples(t *testing.T) {
	for _, x := range [][]int{nil, {}} {
		checkResidual(t, x, 0, nil, api.OK)
		for order := 1; order <= 5; order++ {
			checkResidual(t, x, order, nil, api.ErrArg)
		}
		checkResidual(t, x, -1, nil, api.ErrArg)
	}
}

func TestResidualOfOrdersThatMayNotBe(t *testing.T) {
	for _, x := range [][]int{nil, {1}, waves(5, 1), waves(6, 1), waves(64, 1)} {
		for _, order := range wrongOrders() {
			checkResidual(t, x, order, nil, api.ErrArg)
		}
	}
}

// TestResidualOfAnOrderAsLongAsTheSamples: an order that is just as x is long leaves nothing; one more may not be.
func TestResidualOfAnOrderAsLongAsTheSamples(t *testing.T) {
	for count := 0; count <= 4; count++ {
		checkResidual(t, turns(count), count, nil, api.OK)
		checkResidual(t, turns(count), count+1, nil, api.ErrArg)
	}
}

// TestResidualOfWrongSamples has the wrong one at every place: among the first ones, of which no residual is told, too.
func TestResidualOfWrongSamples(t *testing.T) {
	for _, count := range []int{1, 2, 4, 5, 6, 63, 64} {
		x := waves(count, count)
		for i := range x {
			for _, wrong := range wrongSamples() {
				for order := 0; order <= min(4, count); order++ {
					checkResidual(t, with(x, i, wrong), order, nil, api.ErrSample)
				}
			}
		}
	}
}

func TestResidualOfTooManySamples(t *testing.T) {
	for order := 0; order <= 4; order++ {
		x := waves(api.MaxBlock, 3)
		checkResidual(t, x, order, differences(x, order), api.OK)
		for _, count := range []int{65, 66, 128, 256, 1000, 1 << 16} {
			checkResidual(t, waves(count, 3), order, nil, api.ErrLimit)
		}
	}
}

func TestResidualAnswersTheFirstOfSeveralErrors(t *testing.T) {
	for _, wrong := range wrongSamples() {
		for _, order := range wrongOrders() {
			checkResidual(t, []int{0, wrong}, order, nil, api.ErrArg)
			checkResidual(t, make([]int, 65), order, nil, api.ErrArg)
			checkResidual(t, with(make([]int, 65), 64, wrong), order, nil, api.ErrArg)
		}
		checkResidual(t, []int{0, wrong}, 3, nil, api.ErrArg)
		checkResidual(t, []int{wrong}, 2, nil, api.ErrArg)
		for order := 0; order <= 4; order++ {
			for _, i := range []int{0, 1, 5, 63, 64, 65, 99} {
				checkResidual(t, with(make([]int, 100), i, wrong), order, nil, api.ErrSample)
			}
			checkResidual(t, with(make([]int, 65), 64, wrong), order, nil, api.ErrSample)
		}
	}
}

func TestResidualLeavesWhatIsHandedIn(t *testing.T) {
	for _, x := range [][]int{nil, {1}, {1, 2, 4, 8}, waves(5, 1), waves(64, 1), waves(65, 1), {0, 0, 0, 0, api.High + 1}} {
		for order := -1; order <= 5; order++ {
			row, memory := aside(x)
			before := slices.Clone(memory)
			alone, aloneErr := Residual(slices.Clip(slices.Clone(x)), order)
			got, err := Residual(row, order)
			if err != aloneErr || !slices.Equal(got, alone) {
				t.Error(x, order, got, err)
			}
			clear(got[:cap(got)])
			if !slices.Equal(memory, before) {
				t.Error(x, order, memory)
			}
		}
	}
}

func TestResidualIsNewMemory(t *testing.T) {
	for order := 0; order <= 4; order++ {
		x := []int{1, 2, 4, 8, 16, 15}
		want := differences(x, order)
		one, _ := Residual(x, order)
		other, _ := Residual(x, order)
		clear(one[:cap(one)])
		clear(x)
		if !slices.Equal(other, want) {
			t.Error(order, other)
		}
	}
}

func TestRestore(t *testing.T) {
	checkRestore(t, []int{1}, []int{1, 2}, []int{1, 2, 4}, api.OK)
	x := []int{1, 2, 4, 8, 16, 15}
	for order, residual := range [][]int{{1, 2, 4, 8, 16, 15}, {1, 2, 4, 8, -1}, {1, 2, 4, -9}, {1, 2, -13}, {1, -15}} {
		checkRestore(t, x[:order], residual, x, api.OK)
	}
	// Nothing left: the curve goes on as it began.
	for _, r := range []struct{ warm, want []int }{
		{nil, []int{0, 0, 0}},
		{[]int{9}, []int{9, 9, 9, 9}},
		{[]int{-5, -2}, []int{-5, -2, 1, 4, 7}},
		{[]int{0, 1, 4}, []int{0, 1, 4, 9, 16, 25}},
		{[]int{-8, -1, 0, 1}, []int{-8, -1, 0, 1, 8, 27, 64}},
	} {
		checkRestore(t, r.warm, []int{0, 0, 0}, r.want, api.OK)
	}
}

func TestRestoreOfResidual(t *testing.T) {
	for _, x := range someSamples() {
		for order := 0; order <= min(4, len(x)); order++ {
			residual, err := Residual(x, order)
			if err != api.OK {
				t.Error(x, order, err)
			}
			checkRestore(t, x[:order], residual, x, api.OK)
			checkRestore(t, x[:order], differences(x, order), x, api.OK)
		}
	}
}

func TestRestoreOfNothing(t *testing.T) {
	for _, none := range [][]int{nil, {}} {
		checkRestore(t, none, none, nil, api.OK)
		for count := 0; count <= 4; count++ {
			checkRestore(t, turns(count), none, turns(count), api.OK)
		}
		checkRestore(t, none, []int{api.Low, 0, api.High}, []int{api.Low, 0, api.High}, api.OK)
	}
}

func TestRestoreOfTooManyWarmSamples(t *testing.T) {
	for _, count := range []int{5, 6, 8, 63, 64, 65, 1 << 16} {
		for _, residual := range [][]int{nil, {0}, {1, 2, 3}, make([]int, 59), make([]int, 64), {math.MaxInt}} {
			checkRestore(t, make([]int, count), residual, nil, api.ErrArg)
		}
	}
}

func TestRestoreOfWrongWarmSamples(t *testing.T) {
	for count := 1; count <= 4; count++ {
		for i := range count {
			for _, wrong := range wrongSamples() {
				for _, residual := range [][]int{nil, {0}, {-wrong, wrong}, make([]int, 64-count), make([]int, 65-count)} {
					checkRestore(t, with(make([]int, count), i, wrong), residual, nil, api.ErrSample)
				}
			}
		}
	}
}

// TestRestoreToTheBounds has of every order the residuals that lead just to a bound, and one past it, at the first place and at later ones.
func TestRestoreToTheBounds(t *testing.T) {
	for order := 0; order <= 4; order++ {
		for _, count := range []int{order + 1, order + 2, order + 9, 63, 64} {
			for i := order; i < count; i++ {
				for _, bound := range []int{api.Low, api.High} {
					x := with(waves(count, i), i, bound)
					residual := differences(x, order)
					checkRestore(t, x[:order], residual, x, api.OK)
					past := 1
					if bound == api.Low {
						past = -1
					}
					residual[i-order] += past
					checkRestore(t, x[:order], residual, nil, api.ErrSample)
					residual[i-order] -= 2 * past
					if got, err := Restore(x[:order], residual[:i-order+1]); err != api.OK || got[i] != bound-past {
						t.Error(order, count, i, got, err)
					}
				}
			}
		}
	}
}

// TestRestoreOfHugeResiduals: sums that would wrap round are out of the bounds all the same.
func TestRestoreOfHugeResiduals(t *testing.T) {
	huge := []int{math.MaxInt, math.MaxInt - 1, math.MaxInt + api.Low, math.MaxInt - 1<<30, math.MinInt, math.MinInt + 1, math.MinInt + api.High, math.MinInt + 1<<30, 1 << 62, -1 << 62, 1 << 32, -1 << 32, 1 << 28, -1 << 28}
	for _, left := range huge {
		for count := 0; count <= 4; count++ {
			for _, v := range []int{api.Low, api.Low + 1, -1, 0, 1, api.High} {
				warm := slices.Repeat([]int{v}, count)
				checkRestore(t, warm, []int{left}, nil, api.ErrSample)
				checkRestore(t, warm, []int{left, -left}, nil, api.ErrSample)
				if count > 0 {
					checkRestore(t, warm, []int{0, 0, left, left}, nil, api.ErrSample)
				}
			}
			for _, warm := range [][]int{turns(count), turns(5)[5-count:], turns(6)[6-count:]} {
				checkRestore(t, warm, []int{left}, nil, api.ErrSample)
			}
		}
	}
}

func TestRestoreOfTooManySamples(t *testing.T) {
	for order := 0; order <= 4; order++ {
		x := waves(api.MaxBlock, order)
		checkRestore(t, x[:order], differences(x, order), x, api.OK)
		for _, count := range []int{65, 66, 128, 1000, 1 << 16} {
			x = waves(count, order)
			checkRestore(t, x[:order], differences(x, order), nil, api.ErrLimit)
		}
	}
}

func TestRestoreAnswersTheFirstOfSeveralErrors(t *testing.T) {
	for _, wrong := range wrongSamples() {
		for i := range 5 {
			warm := with(make([]int, 5), i, wrong)
			checkRestore(t, warm, nil, nil, api.ErrArg)
			checkRestore(t, warm, make([]int, 100), nil, api.ErrArg)
			checkRestore(t, make([]int, 5), []int{wrong}, nil, api.ErrArg)
		}
		for order := 0; order <= 4; order++ {
			for i := range 100 {
				checkRestore(t, make([]int, order), with(make([]int, 100), i, wrong), nil, api.ErrSample)
			}
			for _, size := range []int{65 - order, 66 - order, 5000} {
				checkRestore(t, make([]int, order), with(make([]int, size), size-1, wrong), nil, api.ErrSample)
			}
		}
	}
}

func TestRestoreLeavesWhatIsHandedIn(t *testing.T) {
	for _, r := range []struct{ warm, residual []int }{
		{nil, nil}, {nil, []int{1, 2, 3}}, {[]int{1}, nil}, {[]int{1}, []int{1, 2}}, {[]int{1, 2, 4, 8}, []int{1, -15}},
		{make([]int, 4), make([]int, 60)}, {make([]int, 4), make([]int, 61)}, {make([]int, 5), []int{1}}, {[]int{api.Low - 1}, []int{1}}, {[]int{api.High}, []int{0, 1}},
	} {
		alone, aloneErr := Restore(slices.Clip(slices.Clone(r.warm)), slices.Clip(slices.Clone(r.residual)))
		warm, warmMemory := aside(r.warm)
		residual, residualMemory := aside(r.residual)
		before := slices.Concat(warmMemory, residualMemory)
		got, err := Restore(warm, residual)
		if err != aloneErr || !slices.Equal(got, alone) {
			t.Error(r.warm, r.residual, got, err)
		}
		clear(got[:cap(got)])
		if after := slices.Concat(warmMemory, residualMemory); !slices.Equal(after, before) {
			t.Error(r.warm, r.residual, after)
		}
	}
}

func TestRestoreIsNewMemory(t *testing.T) {
	x := []int{1, 2, 4, 8, 16, 15}
	for order := 0; order <= 4; order++ {
		for _, count := range []int{order, order + 1, len(x)} {
			warm, residual := slices.Clone(x[:order]), differences(x[:count], order)
			one, _ := Restore(warm, residual)
			other, _ := Restore(warm, residual)
			clear(one[:cap(one)])
			clear(warm)
			clear(residual)
			if !slices.Equal(other, x[:count]) {
				t.Error(order, count, other)
			}
		}
	}
}

// TestNothingBesideAnError: also where some of the list could be worked out ahead of the error.
func TestNothingBesideAnError(t *testing.T) {
	for _, x := range [][]int{{1}, {0, 0, api.High + 1}, make([]int, 65)} {
		for _, order := range []int{-1, 0, 1, 2, 5} {
			if got, err := Residual(x, order); err != api.OK && len(got) != 0 {
				t.Error(x, order, got, err)
			}
		}
	}
	for _, warm := range [][]int{nil, {api.High}, {0, api.Low - 1}, make([]int, 5)} {
		for _, residual := range [][]int{{0, 0, api.High + 1}, make([]int, 65)} {
			if got, err := Restore(warm, residual); err == api.OK || len(got) != 0 {
				t.Error(warm, residual, got, err)
			}
		}
	}
}

func TestSameAnswersAgain(t *testing.T) {
	x := waves(64, 9)
	for order := 0; order <= 4; order++ {
		for range 3 {
			checkResidual(t, x, order, differences(x, order), api.OK)
			checkResidual(t, x, -1, nil, api.ErrArg)
			checkRestore(t, x[:order], differences(x, order), x, api.OK)
			checkRestore(t, x[:order], []int{math.MaxInt}, nil, api.ErrSample)
		}
	}
}
