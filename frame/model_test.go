package frame

import (
	"math"
	"slices"
	"strings"

	"overdub/api"
	"overdub/levin"
)

// The model: frames as texts of noughts and ones, straight from the document's words. Of the layers below it asks levin alone, which the document names.

// digits answers v, from 0 on, as count binary digits.
func digits(v, count int) string {
	b := make([]byte, count)
	for i := range b {
		b[count-1-i] = '0' + byte(v%2)
		v /= 2
	}
	return string(b)
}

// riced answers z with the parameter k.
func riced(z, k int) string {
	q := z / (1 << k)
	if q < 24 {
		return strings.Repeat("1", q) + "0" + digits(z, k)
	}
	return strings.Repeat("1", 24) + digits(z, 32)
}

func zig(n int) int {
	if n < 0 {
		return -2*n - 1
	}
	return 2 * n
}

func zag(z int) int {
	if z%2 == 1 {
		return -(z + 1) / 2
	}
	return z / 2
}

func head(kind, count int) string {
	return digits(kind, 8) + digits(count, 8)
}

func sampled(x ...int) string {
	s := ""
	for _, v := range x {
		s += digits(v+1<<23, 24)
	}
	return s
}

func coefficiented(coefs ...int) string {
	s := ""
	for _, c := range coefs {
		s += digits(c+1<<15, 16)
	}
	return s
}

// parted answers the residuals with the parameter k.
func parted(residual []int, k int) string {
	s := []string{digits(k, 5)}
	for _, n := range residual {
		s = append(s, riced(zig(n), k))
	}
	return strings.Join(s, "")
}

// partedSize is how many digits parted answers.
func partedSize(residual []int, k int) int {
	size := 5
	for _, n := range residual {
		if q := zig(n) / (1 << k); q < 24 {
			size += q + 1 + k
		} else {
			size += 24 + 32
		}
	}
	return size
}

// shortest answers the residuals with the parameter that has the fewest digits, the least one of several.
func shortest(residual []int) string {
	best := 0
	for k := range 25 {
		if partedSize(residual, k) < partedSize(residual, best) {
			best = k
		}
	}
	return parted(residual, best)
}

// differences are what a fixed predictor leaves: as often as the order, each number less the one ahead of it.
func differences(x []int, order int) []int {
	l := slices.Clone(x)
	for range order {
		for i := len(l) - 1; i > 0; i-- {
			l[i] -= l[i-1]
		}
		l = l[1:]
	}
	return l
}

// guessed is what coefficients make of the samples ahead, over 4096, rounded down. All numbers are small enough for a float.
func guessed(past, coefs []int) int {
	sum := 0
	for i, c := range coefs {
		sum += c * past[len(past)-1-i]
	}
	return int(math.Floor(float64(sum) / 4096))
}

// leftOver are the residuals of coefficients.
func leftOver(x, coefs []int) []int {
	var l []int
	for i := len(coefs); i < len(x); i++ {
		l = append(l, x[i]-guessed(x[:i], coefs))
	}
	return l
}

// fixedCoefs are those of an order, in 4096th parts.
func fixedCoefs(order int) []int {
	return [][]int{{}, {4096}, {8192, -4096}, {12288, -12288, 4096}, {16384, -24576, 16384, -4096}}[order]
}

// text is the model of As, for samples that may be: the digits of the frame, none where there is no such frame.
func text(kind int, x []int) string {
	switch {
	case kind == 0 && slices.Min(x) == slices.Max(x):
		return head(kind, len(x)) + sampled(x[0])
	case kind == 1:
		return head(kind, len(x)) + sampled(x...)
	case kind >= 2 && kind <= 6 && len(x) >= kind-2:
		return head(kind, len(x)) + sampled(x[:kind-2]...) + shortest(differences(x, kind-2))
	case kind >= 7 && kind <= 18:
		if coefs, ok := levin.Coefficients(x, kind-6); ok {
			return head(kind, len(x)) + sampled(x[:kind-6]...) + coefficiented(coefs...) + shortest(leftOver(x, coefs))
		}
	}
	return ""
}

// sizes are how many digits x has in each kind; 0 where there is none.
func sizes(x []int) []int {
	l := make([]int, 19)
	for kind := range l {
		l[kind] = len(text(kind, x))
	}
	return l
}

// least is the kind that Encode takes, and all kinds that have as few digits.
func least(x []int) (int, []int) {
	l := sizes(x)
	fewest := l[1]
	for _, size := range l {
		if size > 0 {
			fewest = min(fewest, size)
		}
	}
	var same []int
	for kind, size := range l {
		if size == fewest {
			same = append(same, kind)
		}
	}
	return same[0], same
}

// packed answers digits as bytes; noughts fill up the last one.
func packed(s string) []byte {
	b := make([]byte, (len(s)+7)/8)
	for i := range s {
		if s[i] == '1' {
			b[i/8] |= 128 >> (i % 8)
		}
	}
	return b
}

func unpacked(b []byte) string {
	var s []string
	for _, v := range b {
		s = append(s, digits(int(v), 8))
	}
	return strings.Join(s, "")
}

// scan takes the digits of a text; bad is set for good where something may not be.
type scan struct {
	text string
	bad  bool
}

func (s *scan) number(count int) int {
	if s.bad || len(s.text) < count {
		s.bad = true
		return 0
	}
	v := 0
	for i := range count {
		v = 2*v + int(s.text[i]-'0')
	}
	s.text = s.text[count:]
	return v
}

func (s *scan) riced(k int) int {
	ones := 0
	for ones < 24 && s.number(1) == 1 {
		ones++
	}
	if ones < 24 {
		return ones*(1<<k) + s.number(k)
	}
	z := s.number(32)
	s.bad = s.bad || z < 24*(1<<k)
	return z
}

func (s *scan) samples(count int) []int {
	var x []int
	for range count {
		x = append(x, s.number(24)-1<<23)
	}
	return x
}

// restored answers warm and count samples that the residuals behind it make.
func (s *scan) restored(warm, coefs []int, count int) []int {
	k := s.number(5)
	s.bad = s.bad || k > 24
	x := slices.Clone(warm)
	for range count {
		if s.bad {
			return nil
		}
		v := guessed(x, coefs) + zag(s.riced(k))
		s.bad = s.bad || v < -1<<23 || v > 1<<23-1
		x = append(x, v)
	}
	return x
}

func (s *scan) frame() []int {
	kind, count := s.number(8), s.number(8)
	fixedOrder, lpcOrder := kind-2, kind-6
	if s.bad || kind > 18 || count < 1 || count > 64 || kind >= 2 && kind <= 6 && count < fixedOrder || kind >= 7 && count <= lpcOrder {
		s.bad = true
		return nil
	}
	switch {
	case kind == 0:
		return slices.Repeat(s.samples(1), count)
	case kind == 1:
		return s.samples(count)
	case kind <= 6:
		return s.restored(s.samples(fixedOrder), fixedCoefs(fixedOrder), count-fixedOrder)
	}
	warm := s.samples(lpcOrder)
	var coefs []int
	for range lpcOrder {
		coefs = append(coefs, s.number(16)-1<<15)
	}
	return s.restored(warm, coefs, count-lpcOrder)
}

// told is the model of Decode.
func told(b []byte) ([]int, api.Errno) {
	s := &scan{text: unpacked(b)}
	x := s.frame()
	if s.bad || strings.Contains(s.text, "1") {
		return nil, api.ErrCorrupt
	}
	return x, api.OK
}
