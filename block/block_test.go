package block

import (
	"bytes"
	"math"
	"slices"
	"sync"
	"testing"

	"overdub/api"
	"overdub/frame"
)

const (
	mostInt  = math.MaxInt
	leastInt = math.MinInt
)

// numbers answers count numbers from low to high, differently for each seed.
func numbers(count, seed, low, high int) []int {
	l := make([]int, count)
	for i := range l {
		seed = (seed*1103515245 + 12345) % (1 << 31)
		l[i] = low + (seed>>3)%(high-low+1)
	}
	return l
}

func noise(count, seed int) []int {
	return numbers(count, seed, api.Low, api.High)
}

// mixed answers count bytes, differently for each seed; the last one is no nought.
func mixed(count, seed int) []byte {
	b := make([]byte, count)
	for i, v := range numbers(count, seed, 0, 255) {
		b[i] = byte(v)
	}
	if count > 0 {
		b[count-1] |= 1
	}
	return b
}

// with answers l with v at place i instead.
func with(l []int, i, v int) []int {
	l = slices.Clone(l)
	l[i] = v
	return l
}

func turns(count, one, other int) []int {
	l := slices.Repeat([]int{one, other}, count/2+1)
	return l[:count]
}

// line answers samples that go up by step; curve those that go up faster and faster.
func line(count, from, step int) []int {
	l := make([]int, count)
	for i := range l {
		l[i] = min(max(from+step*i, api.Low), api.High)
	}
	return l
}

func curve(count, by int) []int {
	l := make([]int, count)
	for i := range l {
		l[i] = min(max(i*i*i*by-1000*i, api.Low), api.High)
	}
	return l
}

// swinging answers count samples that swing, the last two far wider: without the last one of them no predictor suits the others, with it one does.
func swinging(count, height, wider int) []int {
	l := make([]int, count)
	for i := range l {
		l[i] = i * i * 7919 % (height / 16)
	}
	for i, v := range turns(count, height, -height) {
		if i >= count-2 {
			l[i] = v * wider
		} else {
			l[i] += v
		}
	}
	return l
}

// someSamples are lists of count samples, among them with the edges.
func someSamples(count int) [][]int {
	return [][]int{noise(count, count+1), numbers(count, count+2, -20, 20), numbers(count, count+3, -3000, 3000), numbers(count, count+4, -400000, 400000),
		turns(count, api.Low, api.High), turns(count, api.High, api.Low), slices.Repeat([]int{api.Low}, count), slices.Repeat([]int{api.High}, count), make([]int, count),
		line(count, -70, 3), line(count, api.Low, 100000), curve(count, 1), curve(count, 37), append(make([]int, count/2), noise(count-count/2, count)...), append(noise(count/2, count), curve(count-count/2, 2)...)}
}

func wrongSamples() []int {
	return []int{api.Low - 1, api.High + 1, 1 << 24, -1 << 24, 1 << 32, -1 << 32, mostInt, leastInt, mostInt - 1, leastInt + 1}
}

// summed is the model of the sum, digit by digit.
func summed(b []byte) []byte {
	sum := uint32(0xffffffff)
	for _, c := range b {
		for i := 7; i >= 0; i-- {
			out := sum>>31 ^ uint32(c>>i&1)
			sum <<= 1
			if out == 1 {
				sum ^= 0x04C11DB7
			}
		}
	}
	return []byte{byte(sum >> 24), byte(sum >> 16 & 255), byte(sum >> 8 & 255), byte(sum & 255)}
}

// sealed is the model of Seal.
func sealed(b []byte) []byte {
	all := append(bytes.Clone(b), make([]byte, 124-len(b))...)
	return append(all, summed(all)...)
}

// room is the model of m: all numbers are tried, and the last one that fits is taken.
func room(x []int) int {
	most := 0
	for m := 1; m <= len(x) && m <= 64; m++ {
		if b, _ := frame.Encode(x[:m]); len(b) <= 124 {
			most = m
		}
	}
	return most
}

func encoded(x []int) []byte {
	b, _ := frame.Encode(x)
	return b
}

func checkUnsealed(t *testing.T, c *Coder, sector, want []byte) {
	t.Helper()
	if got, err := c.Unseal(sector); err != api.OK || !bytes.Equal(got, want) {
		t.Errorf("%x answers %x %v wanted %x", sector, got, err, want)
	}
}

func checkOpened(t *testing.T, c *Coder, sector []byte, want []int) {
	t.Helper()
	if got, err := c.Open(sector); err != api.OK || !slices.Equal(got, want) {
		t.Errorf("%x answers %v %v wanted %v", sector, got, err, want)
	}
}

func checkNotOpened(t *testing.T, c *Coder, sector []byte) {
	t.Helper()
	if got, err := c.Open(sector); err != api.ErrCorrupt || len(got) != 0 {
		t.Errorf("%x opens: %v %v", sector, got, err)
	}
}

// checkCorrupt: neither Unseal nor Open, and neither counts.
func checkCorrupt(t *testing.T, c *Coder, sector []byte) {
	t.Helper()
	a, b := c.Counts()
	if got, err := c.Unseal(sector); err != api.ErrCorrupt || len(got) != 0 {
		t.Errorf("%x unseals: %x %v", sector, got, err)
	}
	checkNotOpened(t, c, sector)
	checkCounts(t, c, a, b)
}

func checkPacked(t *testing.T, c *Coder, x []int) {
	t.Helper()
	m := room(x)
	got, n, err := c.Pack(x)
	if err != api.OK || n != m || !bytes.Equal(got, sealed(encoded(x[:m]))) {
		t.Fatalf("%v answers %x %d %v wanted %d", x, got, n, err, m)
	}
	checkOpened(t, c, got, x[:m])
}

func checkNotPacked(t *testing.T, c *Coder, x []int, want api.Errno) {
	t.Helper()
	if got, n, err := c.Pack(x); err != want || len(got) != 0 || n != 0 {
		t.Errorf("%v answers %x %d %v wanted %v", x, got, n, err, want)
	}
}

// checkAll answers how many sectors there are.
func checkAll(t *testing.T, c *Coder, x []int) int {
	t.Helper()
	sectors, counts, err := c.All(x)
	if err != api.OK || len(sectors) != len(counts) {
		t.Fatalf("%v answers %d sectors, %v, %v", x, len(sectors), counts, err)
	}
	var back []int
	for i, s := range sectors {
		want, m, _ := New().Pack(x[len(back):])
		if !bytes.Equal(s, want) || counts[i] != m {
			t.Fatalf("%v: sector %d is %x with %d wanted %x with %d", x, i, s, counts[i], want, m)
		}
		if i < len(sectors)-1 && m < 40 {
			t.Errorf("%v: sector %d has %d samples", x, i, m)
		}
		part, _ := c.Open(s)
		back = append(back, part...)
	}
	if !slices.Equal(back, x) {
		t.Fatalf("%v comes back as %v", x, back)
	}
	return len(sectors)
}

func checkNotAll(t *testing.T, c *Coder, x []int) {
	t.Helper()
	if sectors, counts, err := c.All(x); err != api.ErrSample || len(sectors) != 0 || len(counts) != 0 {
		t.Errorf("%v answers %x %v %v", x, sectors, counts, err)
	}
}

func checkCounts(t *testing.T, c *Coder, wantSealed, wantOpened int) {
	t.Helper()
	if a, b := c.Counts(); a != wantSealed || b != wantOpened {
		t.Errorf("sealed %d, opened %d; wanted %d and %d", a, b, wantSealed, wantOpened)
	}
}

func TestSeal(t *testing.T) {
	c := New()
	// The sum of 124 noughts, reckoned apart from this program.
	if got, err := c.Seal(nil); err != api.OK || !bytes.Equal(got, append(make([]byte, 124), 0xcf, 0x8f, 0x14, 0x57)) {
		t.Errorf("%x %v", got, err)
	}
	for n := range 125 {
		for seed := range 3 {
			b := mixed(n, seed+n)
			got, err := c.Seal(b)
			if err != api.OK || !bytes.Equal(got, sealed(b)) {
				t.Errorf("%x answers %x %v", b, got, err)
			}
			if len(got) != api.Sector || !bytes.Equal(got[:n], b) || !bytes.Equal(got[n:124], make([]byte, 124-n)) {
				t.Errorf("%x answers %x", b, got)
			}
		}
	}
	for _, b := range [][]byte{{}, {0}, {255}, make([]byte, 124), bytes.Repeat([]byte{255}, 124)} {
		if got, err := c.Seal(b); err != api.OK || !bytes.Equal(got, sealed(b)) {
			t.Errorf("%x answers %x %v", b, got, err)
		}
	}
}

// TestSumKnownElsewhere: the model's sum is one that others reckon, too.
func TestSumKnownElsewhere(t *testing.T) {
	if got := summed([]byte("123456789")); !bytes.Equal(got, []byte{0x03, 0x76, 0xe6, 0xe7}) {
		t.Errorf("%x", got)
	}
}

func TestSealOfTooMuch(t *testing.T) {
	c := New()
	for _, n := range []int{125, 126, 127, 128, 129, 248, 256, 1000} {
		for _, b := range [][]byte{make([]byte, n), mixed(n, n)} {
			if got, err := c.Seal(b); err != api.ErrLimit || len(got) != 0 {
				t.Errorf("%d bytes answer %x %v", n, got, err)
			}
		}
	}
	checkCounts(t, c, 0, 0)
}

func TestUnseal(t *testing.T) {
	c := New()
	for n := range 125 {
		b := mixed(n, n)
		s, _ := New().Seal(b)
		checkUnsealed(t, c, s, append(b, make([]byte, 124-n)...))
		checkUnsealed(t, c, sealed(b[:n]), s[:124])
	}
	checkCounts(t, c, 0, 250)
}

// TestSectorsOfOtherLengths: also such whose last four bytes are the sum of all ahead, or of Frame bytes.
func TestSectorsOfOtherLengths(t *testing.T) {
	c := New()
	good := sealed(encoded([]int{1, 2, 3}))
	checkOpened(t, c, good, []int{1, 2, 3})
	for n := range 260 {
		if n == 128 {
			continue
		}
		longer := append(bytes.Clone(good), make([]byte, 200)...)
		checkCorrupt(t, c, longer[:n])
		checkCorrupt(t, c, make([]byte, n))
		checkCorrupt(t, c, mixed(n, n))
		if n >= 4 {
			checkCorrupt(t, c, append(longer[:n-4:n-4], summed(longer[:n-4])...))
			checkCorrupt(t, c, append(longer[:n-4:n-4], good[124:]...))
		}
	}
	checkCorrupt(t, c, nil)
}

func TestSectorsWithAnotherSum(t *testing.T) {
	c := New()
	for _, b := range [][]byte{nil, encoded([]int{7, 7, 7}), encoded(noise(40, 1)), mixed(124, 3)} {
		good := sealed(b)
		for i := range 4 {
			for v := 1; v < 256; v++ {
				bad := bytes.Clone(good)
				bad[124+i] ^= byte(v)
				checkCorrupt(t, c, bad)
			}
		}
		upside := append(bytes.Clone(good[:124]), good[127], good[126], good[125], good[124])
		checkCorrupt(t, c, upside)
		if len(b) < 124 {
			checkCorrupt(t, c, append(bytes.Clone(good[:124]), summed(b)...))
		}
		checkCorrupt(t, c, append(bytes.Clone(good[:124]), 0, 0, 0, 0))
		checkCorrupt(t, c, append(bytes.Clone(good[:124]), 255, 255, 255, 255))
	}
	checkCorrupt(t, c, make([]byte, 128))
	checkCorrupt(t, c, bytes.Repeat([]byte{255}, 128))
	checkCounts(t, c, 0, 0)
}

func TestOpen(t *testing.T) {
	c := New()
	for _, count := range []int{1, 2, 3, 5, 8, 13, 21, 39, 40} {
		for _, x := range someSamples(count) {
			for kind := range 19 {
				if b, ok := frame.As(kind, x); ok && len(b) <= 124 {
					checkOpened(t, c, sealed(b), x)
				}
			}
		}
	}
}

// TestOpenOfNoFrame: the sum is right, so that Unseal tells the bytes; they are no frame.
func TestOpenOfNoFrame(t *testing.T) {
	c := New()
	none := [][]byte{nil, {0}, {0, 0}, {19, 1}, {255, 1, 2, 3}, {1, 65}, {0, 65}, {0, 3, 0x80, 0, 7, 1}, {2, 3, 0xff}, bytes.Repeat([]byte{255}, 124), append(encoded(noise(40, 2)), 1)}
	for n := 1; n < 125; n++ {
		none = append(none, append([]byte{byte(19 + n)}, mixed(n-1, n)...))
	}
	for i, b := range none {
		s := sealed(b)
		checkCounts(t, c, 0, i)
		checkNotOpened(t, c, s)
		checkCounts(t, c, 0, i)
		checkUnsealed(t, c, s, s[:124])
	}
}

// TestOpenOfAnyFrame: Open is Decode of what Unseal tells.
func TestOpenOfAnyFrame(t *testing.T) {
	c := New()
	for seed := range 4000 {
		b := mixed(1+seed%124, seed)
		b[0] %= 20
		if len(b) > 1 {
			b[1] %= 70
		}
		s := sealed(b)
		want, wantErr := frame.Decode(s[:124])
		if got, err := c.Open(s); err != wantErr || !slices.Equal(got, want) {
			t.Errorf("%x answers %v %v wanted %v %v", s, got, err, want, wantErr)
		}
	}
}

func TestPack(t *testing.T) {
	c := New()
	for _, count := range []int{1, 2, 3, 39, 40, 41, 42, 50, 63, 64, 65, 66, 100, 130} {
		for _, x := range someSamples(count) {
			checkPacked(t, c, x)
		}
	}
	for i, k := range []struct {
		x []int
		m int
	}{
		{[]int{5}, 1},
		{make([]int, 64), 64},
		{make([]int, 65), 64},
		{make([]int, 1000), 64},
		{noise(39, 1), 39},
		{noise(40, 1), 40},
		{noise(64, 1), 40},
		{noise(1000, 1), 40},
	} {
		if _, m, err := c.Pack(k.x); err != api.OK || m != k.m {
			t.Errorf("%d: %d %v wanted %d", i, m, err, k.m)
		}
	}
}

// TestPackTakesTheGreatestNumber: as many as m fit, one fewer do not, and still fewer do again.
func TestPackTakesTheGreatestNumber(t *testing.T) {
	c := New()
	for _, k := range []struct{ m, height, wider int }{{46, 524288, 11}, {51, 131072, 12}, {54, 65536, 11}, {57, 32768, 12}, {60, 16384, 12}, {61, 16384, 11}, {64, 8192, 12}} {
		x := swinging(k.m, k.height, k.wider)
		less, one, all := len(encoded(x[:k.m-2])), len(encoded(x[:k.m-1])), len(encoded(x))
		if less > 124 || one <= 124 || all > 124 {
			t.Errorf("%v: the frames have %d, %d and %d bytes", k, less, one, all)
		}
		for behind := range 5 {
			longer := append(slices.Clone(x), slices.Repeat([]int{api.High, api.Low, 5}, 10*behind)...)
			if _, m, err := c.Pack(longer); err != api.OK || m != k.m {
				t.Errorf("%v: %d %v", k, m, err)
			}
			checkPacked(t, c, longer)
			checkAll(t, c, longer)
		}
		checkPacked(t, c, x[:k.m-1])
	}
}

// TestNoGreaterNumberFits, with what is promised to fit in any case.
func TestNoGreaterNumberFits(t *testing.T) {
	c := New()
	for seed := range 60 {
		height := 1 << (seed%24 + 1)
		x := numbers(30+seed, seed, max(-height, api.Low), min(height, api.High))
		_, m, err := c.Pack(x)
		if err != api.OK || m < min(40, len(x)) || m > min(64, len(x)) || len(encoded(x[:m])) > 124 {
			t.Errorf("%v: %d %v", x, m, err)
		}
		for n := m + 1; n <= min(64, len(x)); n++ {
			if b := encoded(x[:n]); len(b) <= 124 {
				t.Errorf("%v: %d samples fit, %d were taken", x, n, m)
			}
		}
	}
}

func TestPackOfNothing(t *testing.T) {
	c := New()
	checkNotPacked(t, c, nil, api.ErrLimit)
	checkNotPacked(t, c, []int{}, api.ErrLimit)
	// What lies behind the length is none of it, a wrong sample least of all.
	checkNotPacked(t, c, []int{1, api.High + 1}[:0], api.ErrLimit)
	checkCounts(t, c, 0, 0)
}

// TestWrongSamples: at every place, also behind the block that would be taken, and in more samples than a block has.
func TestWrongSamples(t *testing.T) {
	c := New()
	for _, count := range []int{1, 2, 40, 41, 64, 65, 200} {
		for _, x := range [][]int{noise(count, count), make([]int, count)} {
			for _, v := range wrongSamples() {
				for _, i := range []int{0, count / 2, min(40, count-1), min(64, count-1), max(count-2, 0), count - 1} {
					checkNotPacked(t, c, with(x, i, v), api.ErrSample)
					checkNotAll(t, c, with(x, i, v))
				}
			}
		}
	}
	checkCounts(t, c, 0, 0)
	for _, count := range []int{1, 40, 41, 64, 65, 200} {
		for _, v := range []int{api.Low, api.High} {
			for _, i := range []int{0, min(64, count-1), count - 1} {
				checkPacked(t, c, with(noise(count, count), i, v))
				checkAll(t, c, with(make([]int, count), i, v))
			}
		}
	}
	checkNotPacked(t, c, []int{1, api.High + 1, api.Low - 1}, api.ErrSample)
	// Behind the length there may be anything.
	x := []int{1, 2, 3, api.High + 1}[:3]
	checkPacked(t, c, x)
	checkAll(t, c, x)
}

func TestAll(t *testing.T) {
	c := New()
	for _, count := range []int{0, 1, 2, 39, 40, 41, 63, 64, 65, 80, 81, 128, 129, 200, 333} {
		for _, x := range someSamples(count) {
			checkAll(t, c, x)
		}
	}
	for i, k := range []struct {
		x      []int
		counts []int
	}{
		{nil, nil},
		{[]int{9}, []int{1}},
		{make([]int, 64), []int{64}},
		{make([]int, 65), []int{64, 1}},
		{make([]int, 128), []int{64, 64}},
		{noise(40, 1), []int{40}},
		{noise(41, 1), []int{40, 1}},
		{noise(121, 1), []int{40, 40, 40, 1}},
		{append(make([]int, 64), noise(50, 2)...), []int{64, 40, 10}},
	} {
		if _, counts, err := c.All(k.x); err != api.OK || !slices.Equal(counts, k.counts) {
			t.Errorf("%d: %v %v wanted %v", i, counts, err, k.counts)
		}
	}
	if n := checkAll(t, c, noise(1000, 5)); n != 25 {
		t.Error(n)
	}
}

func TestAllOfNothing(t *testing.T) {
	c := New()
	for _, x := range [][]int{nil, {}, []int{api.High + 1}[:0]} {
		if sectors, counts, err := c.All(x); err != api.OK || len(sectors) != 0 || len(counts) != 0 {
			t.Error(sectors, counts, err)
		}
	}
	checkCounts(t, c, 0, 0)
}

func TestCounts(t *testing.T) {
	c, other := New(), New()
	checkCounts(t, c, 0, 0)
	s, _ := c.Seal([]byte{19, 2})
	checkCounts(t, c, 1, 0)
	c.Seal(make([]byte, 125))
	checkCounts(t, c, 1, 0)
	good, _, _ := c.Pack([]int{1, 2, 3})
	checkCounts(t, c, 2, 0)
	c.Pack(nil)
	c.Pack([]int{api.High + 1})
	checkCounts(t, c, 2, 0)
	c.All(append(make([]int, 64), noise(81, 1)...))
	checkCounts(t, c, 6, 0)
	c.All(nil)
	c.All(with(make([]int, 200), 199, api.Low-1))
	checkCounts(t, c, 6, 0)
	c.Unseal(s)
	checkCounts(t, c, 6, 1)
	c.Open(s)
	checkCounts(t, c, 6, 1)
	c.Open(good)
	checkCounts(t, c, 6, 2)
	c.Open(good)
	c.Unseal(good)
	checkCounts(t, c, 6, 4)
	c.Unseal(good[:127])
	c.Open(good[:127])
	c.Unseal(make([]byte, 128))
	c.Open(make([]byte, 128))
	checkCounts(t, c, 6, 4)
	checkCounts(t, c, 6, 4)
	checkCounts(t, other, 0, 0)
	other.Open(good)
	other.Seal(nil)
	other.Seal(nil)
	checkCounts(t, other, 2, 1)
	checkCounts(t, c, 6, 4)
	checkCounts(t, New(), 0, 0)
}

func TestCountsByMany(t *testing.T) {
	c := New()
	x := noise(45, 3)
	s, m, _ := New().Pack(x)
	var all sync.WaitGroup
	for range 16 {
		all.Go(func() {
			for range 50 {
				if b, err := c.Seal(encoded(x[:m])); err != api.OK || !bytes.Equal(b, s) {
					t.Error(b, err)
				}
				if got, err := c.Open(s); err != api.OK || !slices.Equal(got, x[:m]) {
					t.Error(got, err)
				}
				c.Unseal(s)
			}
		})
	}
	all.Wait()
	checkCounts(t, c, 800, 1600)
}

// TestTableIsMadeOnce, at the first use, by each coder for itself.
func TestTableIsMadeOnce(t *testing.T) {
	c, other := New(), New()
	if c.table.Made() || c.table == other.table {
		t.Error("made ahead of its use, or shared")
	}
	c.Counts()
	c.Unseal(nil)
	c.Seal(make([]byte, 125))
	if c.table.Made() {
		t.Error("made without a use")
	}
	kept := c.table
	c.Seal([]byte{1})
	c.Pack([]int{1})
	c.Unseal(sealed(nil))
	if !c.table.Made() || c.table != kept || other.table.Made() {
		t.Error("another table, or another coder's")
	}
}

func turned(b []byte, at int, burst uint32, count int) []byte {
	b = bytes.Clone(b)
	for i := range count {
		if burst>>(31-i)&1 == 1 {
			b[(at+i)/8] ^= 128 >> ((at + i) % 8)
		}
	}
	return b
}

// TestBursts: at each place of a sector, the first and the last digit of each burst turned and some between.
func TestBursts(t *testing.T) {
	c := New()
	for _, s := range [][]byte{sealed(encoded([]int{1, 2, 3, 5, 8, 13, 21})), sealed(encoded(noise(40, 7))), sealed(encoded(make([]int, 64))), sealed(nil)} {
		for count := 1; count <= 32; count++ {
			for _, between := range []uint32{0, 0xffffffff, 0x55555555, 0x04C11DB7, 0x9a3b7c1d} {
				burst := between>>1 | 1<<31 | 1<<(32-count)
				for at := 0; at+count <= 1024; at++ {
					checkCorrupt(t, c, turned(s, at, burst, count))
				}
			}
		}
	}
	checkCounts(t, c, 0, 0)
}

func TestWhatIsHandedInStays(t *testing.T) {
	c := New()
	b := mixed(400, 1)
	kept := bytes.Clone(b)
	for _, n := range []int{0, 1, 50, 123, 124, 125} {
		c.Seal(b[10 : 10+n])
	}
	if !bytes.Equal(b, kept) {
		t.Error("bytes were changed by Seal")
	}
	copy(b[10:], sealed(encoded(noise(40, 1))))
	kept = bytes.Clone(b)
	part := b[10:138]
	checkOpened(t, c, part, noise(40, 1))
	got, _ := c.Unseal(part)
	c.Unseal(b[10:137])
	c.Open(b[10:139])
	clear(append(got, make([]byte, 40)...))
	clear(got)
	if !bytes.Equal(b, kept) {
		t.Error("bytes were changed by Unseal or Open, or by their answer")
	}
	x := noise(300, 2)
	same := slices.Clone(x)
	c.Pack(x[10:20])
	c.Pack(x[10:200])
	c.All(x[10:200])
	c.All(x[10:10])
	if !slices.Equal(x, same) {
		t.Error("samples were changed")
	}
}

// TestWhatIsHandedInIsNotKept: an answer stays when what it was made of is changed.
func TestWhatIsHandedInIsNotKept(t *testing.T) {
	c := New()
	b := mixed(124, 4)
	s, _ := c.Seal(b)
	kept := bytes.Clone(s)
	b[0]++
	if !bytes.Equal(s, kept) {
		t.Error("Seal's answer is the frame's memory")
	}
	got, _ := c.Unseal(s)
	s[5]++
	if !bytes.Equal(got, kept[:124]) {
		t.Error("Unseal's answer is the sector's memory")
	}
	s = sealed(encoded(noise(40, 1)))
	x, _ := c.Open(s)
	clear(s)
	if !slices.Equal(x, noise(40, 1)) {
		t.Error("Open's answer hangs on the sector")
	}
}

// TestAnswersAreNew: to change one, or to append to it, changes no other.
func TestAnswersAreNew(t *testing.T) {
	c := New()
	x := noise(200, 9)
	sectors, counts, _ := c.All(x)
	again, countsAgain, _ := c.All(x)
	kept, keptCounts := slices.Clone(again), slices.Clone(countsAgain)
	for i := range kept {
		kept[i] = bytes.Clone(again[i])
	}
	for i := range sectors {
		for j := range sectors[i] {
			sectors[i][j] = 0xee
		}
		clear(append(sectors[i], make([]byte, 300)...)[128:])
		for j := i + 1; j < len(sectors); j++ {
			if !bytes.Equal(sectors[j], kept[j]) {
				t.Fatalf("sector %d is in the memory of %d", j, i)
			}
		}
	}
	clear(sectors)
	clear(counts)
	for i := range again {
		if !bytes.Equal(again[i], kept[i]) {
			t.Error("sectors of two answers share memory")
		}
	}
	if !slices.Equal(countsAgain, keptCounts) {
		t.Error("counts of two answers share memory")
	}
	one, _, _ := c.Pack(x)
	two, _, _ := c.Pack(x)
	clear(one)
	checkOpened(t, c, two, x[:40])
	first, _ := c.Open(two)
	second, _ := c.Open(two)
	clear(first)
	if !slices.Equal(second, x[:40]) {
		t.Error("samples of two answers share memory")
	}
}

// TestTheSameAgain: what was done before changes nothing but the counts.
func TestTheSameAgain(t *testing.T) {
	c := New()
	for seed := range 5 {
		x := numbers(150, seed, -5000, 5000)
		sectors, counts, _ := c.All(x)
		c.Seal(mixed(seed*20, seed))
		c.Open(mixed(128, seed))
		c.Pack([]int{api.High + 1})
		again, countsAgain, _ := c.All(x)
		others, countsOthers, _ := New().All(x)
		if !slices.Equal(counts, countsAgain) || !slices.Equal(counts, countsOthers) {
			t.Error(counts, countsAgain, countsOthers)
		}
		for i := range sectors {
			if !bytes.Equal(sectors[i], again[i]) || !bytes.Equal(sectors[i], others[i]) {
				t.Error(i)
			}
		}
	}
}
