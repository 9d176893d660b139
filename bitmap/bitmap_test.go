package bitmap

import (
	"bytes"
	"math"
	"slices"
	"testing"

	"overdub/api"
)

const (
	mostInt  = math.MaxInt
	leastInt = math.MinInt
)

var ones = ^uint64(0) // no constant: it is shifted

// lengths are maps at the edges of bytes, of words, and of what may be.
func lengths() []int {
	return []int{1, 2, 7, 8, 9, 11, 16, 62, 63, 64, 65, 66, 127, 128, 129, 130, 192, 1000, 4031, 4032, 4033, 4095, api.MaxSectors}
}

// extremes are numbers that are far from every map.
func extremes() []int {
	return []int{-2, -63, -64, -65, -4096, -1 << 32, leastInt, leastInt + 1, leastInt + 64, 4097, 4159, 4160, 1 << 32, 1<<32 + 1, mostInt, mostInt - 1, mostInt - 63, mostInt - 64}
}

// places are sectors of n at the edges of bytes and of words, the first ones and the last ones.
func places(n int) []int {
	var l []int
	for _, i := range []int{0, 1, 2, 6, 7, 8, 9, 15, 16, 31, 32, 62, 63, 64, 65, 126, 127, 128, 4031, 4032, 4033, n - 2, n - 1} {
		if i >= 0 && i < n && !slices.Contains(l, i) {
			l = append(l, i)
		}
	}
	return l
}

// numbers answers count numbers from low to high, differently for each seed.
func numbers(count, seed, low, high int) []int {
	l := make([]int, count)
	for i := range l {
		seed = (seed*1103515245 + 12345) % (1 << 31)
		l[i] = low + (seed>>3)%(high-low+1)
	}
	return l
}

func some(t *testing.T, n int) *Map {
	t.Helper()
	m, err := New(n)
	if err != api.OK || m == nil {
		t.Fatalf("New(%d): %v", n, err)
	}
	return m
}

// model is a map by the document's words: of each sector whether it is used.
type model []bool

func (s model) isThere(i int) bool {
	return 0 <= i && i < len(s)
}

func (s model) set(i int, used bool) bool {
	if !s.isThere(i) || s[i] == used {
		return false
	}
	s[i] = used
	return true
}

func (s model) count() int {
	count := 0
	for _, used := range s {
		if used {
			count++
		}
	}
	return count
}

func (s model) first(from int) int {
	for i, used := range s {
		if i >= from && !used {
			return i
		}
	}
	return -1
}

func (s model) take() int {
	i := s.first(0)
	if i >= 0 {
		s[i] = true
	}
	return i
}

// behind answers for each sector how many free ones begin there.
func (s model) behind() []int {
	l := make([]int, len(s)+1)
	for i := len(s) - 1; i >= 0; i-- {
		if !s[i] {
			l[i] = l[i+1] + 1
		}
	}
	return l
}

func runOf(behind []int, n int) int {
	if n < 1 {
		return -1
	}
	for at, free := range behind {
		if free >= n {
			return at
		}
	}
	return -1
}

// padded answers the digits with ones behind them up to whole words.
func padded(l []bool) []bool {
	l = slices.Clone(l)
	for len(l)%64 != 0 {
		l = append(l, true)
	}
	return l
}

func packed(l []bool) []uint64 {
	words := make([]uint64, len(l)/64)
	for i, one := range l {
		if one {
			words[i/64] += 1 << (i % 64)
		}
	}
	return words
}

// levels answers all levels there are.
func (s model) levels() [][]uint64 {
	l := padded(s)
	all := [][]uint64{packed(l)}
	for len(l) > 64 {
		var up []bool
		for word := range slices.Chunk(l, 64) {
			up = append(up, !slices.Contains(word, false))
		}
		l = padded(up)
		all = append(all, packed(l))
	}
	return all
}

func (s model) bytes() []byte {
	b := make([]byte, (len(s)+7)/8)
	for i, used := range s {
		if used {
			b[i/8] += 1 << (7 - i%8)
		}
	}
	return b
}

func checkUsed(t *testing.T, m *Map, i int, want bool) {
	t.Helper()
	if m.Used(i) != want {
		t.Fatalf("Used(%d): %v", i, !want)
	}
}

func checkSet(t *testing.T, m *Map, i int, used, want bool) {
	t.Helper()
	if m.Set(i, used) != want {
		t.Fatalf("Set(%d, %v): %v", i, used, !want)
	}
}

func checkCount(t *testing.T, m *Map, want int) {
	t.Helper()
	if n := m.Count(); n != want {
		t.Fatalf("%d are used, not %d", n, want)
	}
}

func checkFirst(t *testing.T, m *Map, from, want int) {
	t.Helper()
	if i := m.First(from); i != want {
		t.Fatalf("First(%d) of %d: %d, not %d", from, m.Len(), i, want)
	}
}

func checkRun(t *testing.T, m *Map, n, want int) {
	t.Helper()
	if i := m.Run(n); i != want {
		t.Fatalf("Run(%d) of %d: %d, not %d", n, m.Len(), i, want)
	}
}

func checkTake(t *testing.T, m *Map, want int) {
	t.Helper()
	if i := m.Take(); i != want {
		t.Fatalf("Take of %d: %d, not %d", m.Len(), i, want)
	}
}

func checkLevel(t *testing.T, m *Map, k int, want ...uint64) {
	t.Helper()
	if l := m.Level(k); !slices.Equal(l, want) {
		t.Fatalf("Level(%d) of %d: %x, not %x", k, m.Len(), l, want)
	}
}

func checkBytes(t *testing.T, m *Map, want ...byte) {
	t.Helper()
	if b := m.Bytes(); !bytes.Equal(b, want) {
		t.Fatalf("Bytes of %d: %x, not %x", m.Len(), b, want)
	}
}

// checkAs holds all that a map shows against the model.
func checkAs(t *testing.T, m *Map, s model) {
	t.Helper()
	if m.Len() != len(s) {
		t.Fatalf("%d sectors, not %d", m.Len(), len(s))
	}
	for i, used := range s {
		checkUsed(t, m, i, used)
	}
	checkCount(t, m, s.count())
	behind := s.behind()
	for _, i := range append(extremes(), -1, len(s), len(s)+1, len(s)+63, len(s)+64) {
		checkUsed(t, m, i, !s.isThere(i) || s[max(min(i, len(s)-1), 0)])
		checkFirst(t, m, i, s.first(i))
		checkRun(t, m, i, runOf(behind, i))
	}
	for _, i := range append(places(len(s)), numbers(5, len(s)+s.count(), 0, len(s))...) {
		checkFirst(t, m, i, s.first(i))
		checkRun(t, m, i, runOf(behind, i))
	}
	longest := slices.Max(behind)
	checkRun(t, m, longest, runOf(behind, longest))
	checkRun(t, m, longest+1, -1)
	levels := s.levels()
	for k, words := range levels {
		checkLevel(t, m, k, words...)
	}
	for _, k := range []int{-1, -2, len(levels), len(levels) + 1, 64, 1 << 32, mostInt, leastInt, mostInt - 1, leastInt + 1} {
		checkLevel(t, m, k)
	}
	checkBytes(t, m, s.bytes()...)
}

func TestNew(t *testing.T) {
	for _, n := range lengths() {
		checkAs(t, some(t, n), make(model, n))
	}
}

func TestNewOfAllLengths(t *testing.T) {
	for n := 1; n <= api.MaxSectors; n++ {
		m := some(t, n)
		if m.Len() != n {
			t.Fatalf("New(%d) has %d sectors", n, m.Len())
		}
		checkCount(t, m, 0)
		checkUsed(t, m, n-1, false)
		checkUsed(t, m, n, true)
		checkFirst(t, m, n-1, n-1)
		checkFirst(t, m, n, -1)
		checkRun(t, m, n, 0)
		checkRun(t, m, n+1, -1)
		if len(m.Bytes()) != (n+7)/8 || len(m.Level(0)) != (n+63)/64 {
			t.Fatalf("New(%d) has %d bytes, %d words", n, len(m.Bytes()), len(m.Level(0)))
		}
	}
}

func TestNewOfWrongLengths(t *testing.T) {
	for _, n := range append(extremes(), 0, -1, api.MaxSectors+1, 2*api.MaxSectors) {
		if m, err := New(n); m != nil || err != api.ErrArg {
			t.Errorf("New(%d): %v", n, err)
		}
	}
}

func TestTheDocumentsExample(t *testing.T) {
	m := some(t, 3)
	checkTake(t, m, 0)
	checkTake(t, m, 1)
	checkAs(t, m, model{true, true, false})
}

// Each of these sectors alone: set, set again, freed, freed again.
func TestSet(t *testing.T) {
	for _, n := range lengths() {
		m, s := some(t, n), make(model, n)
		for _, i := range places(n) {
			checkSet(t, m, i, false, false)
			checkSet(t, m, i, true, true)
			s[i] = true
			checkAs(t, m, s)
			checkSet(t, m, i, true, false)
			checkAs(t, m, s)
			checkSet(t, m, i, false, true)
			s[i] = false
			checkAs(t, m, s)
			checkSet(t, m, i, false, false)
			checkAs(t, m, s)
		}
	}
}

func TestSetOfAllSectorsOneByOne(t *testing.T) {
	for _, n := range lengths() {
		m, s := some(t, n), make(model, n)
		for i := range n {
			checkSet(t, m, i, true, true)
			s[i] = true
			checkCount(t, m, i+1)
			checkFirst(t, m, 0, s.first(i))
		}
		checkAs(t, m, s)
		for i := range n {
			checkSet(t, m, i, true, false)
			checkSet(t, m, i, false, true)
			checkCount(t, m, n-1)
			checkFirst(t, m, 0, i)
			checkSet(t, m, i, true, true)
		}
		checkAs(t, m, s)
		for i := range n {
			checkSet(t, m, n-1-i, false, true)
			checkCount(t, m, n-1-i)
			checkFirst(t, m, 0, n-1-i)
		}
		checkAs(t, m, make(model, n))
	}
}

// A sector that is not there is used, and stays so.
func TestSetOfNoSector(t *testing.T) {
	for _, n := range lengths() {
		m, s := some(t, n), make(model, n)
		for i := 0; i < n; i += 3 {
			m.Set(i, true)
			s[i] = true
		}
		for _, i := range append(extremes(), -1, -n, n, n+1, n+7, n+8, n+63, n+64, 2*n) {
			if s.isThere(i) {
				continue
			}
			checkSet(t, m, i, true, false)
			checkSet(t, m, i, false, false)
			checkUsed(t, m, i, true)
		}
		checkAs(t, m, s)
	}
}

func TestFirst(t *testing.T) {
	m := some(t, 130)
	for i := range 130 {
		m.Set(i, i != 5 && i != 63 && i != 64 && i != 129)
	}
	for _, c := range [][2]int{
		{leastInt, 5}, {-64, 5}, {-1, 5}, {0, 5}, {4, 5}, {5, 5}, {6, 63}, {62, 63}, {63, 63},
		{64, 64}, {65, 129}, {127, 129}, {128, 129}, {129, 129}, {130, -1}, {131, -1}, {191, -1}, {192, -1}, {mostInt, -1},
	} {
		checkFirst(t, m, c[0], c[1])
	}
	checkSet(t, m, 129, true, true)
	checkFirst(t, m, 65, -1)
	checkFirst(t, m, 64, 64)
	checkCount(t, m, 127)
}

// From every place on, in maps of few free sectors and of many.
func TestFirstFromEveryPlace(t *testing.T) {
	for _, n := range []int{1, 63, 64, 65, 130, 1000} {
		for _, step := range []int{1, 2, 63, 64, 65, 129} {
			m, s := some(t, n), make(model, n)
			for i := range n {
				s[i] = i%step != step-1
				m.Set(i, s[i])
			}
			for from := -2; from < n+66; from++ {
				checkFirst(t, m, from, s.first(from))
			}
		}
	}
}

// Used sectors of maps, and where so many free ones begin then.
func TestRun(t *testing.T) {
	for _, c := range []struct {
		length  int
		used    []int
		n, want int
	}{
		{1, nil, 1, 0}, {1, nil, 2, -1}, {1, []int{0}, 1, -1},
		{11, []int{3, 8}, 1, 0}, {11, []int{3, 8}, 3, 0}, {11, []int{3, 8}, 4, 4}, {11, []int{3, 8}, 5, -1},
		{11, []int{0, 2, 5, 9}, 1, 1}, {11, []int{0, 2, 5, 9}, 2, 3}, {11, []int{0, 2, 5, 9}, 3, 6}, {11, []int{0, 2, 5, 9}, 4, -1},
		{11, []int{0, 2, 4, 6, 8}, 2, 9}, {11, []int{0, 2, 4, 6, 8}, 3, -1},
		{64, nil, 64, 0}, {64, nil, 65, -1}, {64, []int{0}, 63, 1}, {64, []int{0}, 64, -1}, {64, []int{63}, 63, 0}, {64, []int{63}, 64, -1},
		{65, []int{0}, 64, 1}, {65, []int{0}, 65, -1}, {65, []int{62}, 2, 0}, {65, []int{62}, 62, 0}, {65, []int{62}, 63, -1},
		{128, []int{10, 61, 66}, 4, 0}, {128, []int{0, 2, 61, 66}, 60, 67}, {128, []int{0, 2, 61, 66}, 61, 67}, {128, []int{0, 2, 61, 66}, 62, -1},
		{130, []int{63}, 66, 64}, {130, []int{63}, 67, -1}, {130, []int{64}, 65, 65}, {130, []int{64}, 64, 0}, {130, []int{64}, 66, -1},
		{200, []int{20, 180}, 159, 21}, {200, []int{20, 180}, 160, -1}, {200, []int{20, 180}, 20, 0}, {200, []int{20, 180}, 21, 21},
		{256, []int{60, 194}, 133, 61}, {256, []int{60, 194}, 134, -1}, {256, []int{63, 192}, 128, 64}, {256, []int{63, 192}, 129, -1},
		{4096, nil, 4096, 0}, {4096, nil, 4097, -1}, {4096, []int{0}, 4095, 1}, {4096, []int{4095}, 4095, 0}, {4096, []int{2047}, 2048, 2048}, {4096, []int{2047}, 2049, -1},
		{4095, []int{2047}, 2047, 0}, {4095, []int{2046}, 2048, 2047}, {4095, []int{2046}, 2049, -1},
	} {
		m := some(t, c.length)
		for _, i := range c.used {
			checkSet(t, m, i, true, true)
		}
		checkRun(t, m, c.n, c.want)
		for _, n := range []int{0, -1, -64, leastInt, leastInt + 1, mostInt, mostInt - 1, c.length + 1, c.length + 64} {
			checkRun(t, m, n, -1)
		}
		checkCount(t, m, len(c.used))
	}
}

// One run alone, wherever it lies and however long it is.
func TestOneRunEverywhere(t *testing.T) {
	for _, length := range []int{63, 64, 65, 129, 192} {
		used := some(t, length)
		for range length {
			used.Take()
		}
		for at := range length {
			m := used.Clone()
			for end := at; end < length; end++ {
				m.Set(end, false)
				n := end - at + 1
				checkRun(t, m, 1, at)
				checkRun(t, m, n, at)
				checkRun(t, m, n+1, -1)
			}
		}
	}
}

// A run that is one too short is passed, wherever it lies.
func TestShortRunsArePassed(t *testing.T) {
	for _, at := range []int{0, 1, 30, 60, 62, 63, 64, 65, 120} {
		for _, n := range []int{2, 3, 10, 64, 65, 100} {
			m := some(t, 500)
			s := make(model, 500)
			for i := range s {
				s[i] = !(i >= at && i < at+n-1) && !(i >= 300 && i < 300+n)
				m.Set(i, s[i])
			}
			checkRun(t, m, n-1, at)
			checkRun(t, m, n, 300)
			checkRun(t, m, n+1, -1)
			checkAs(t, m, s)
		}
	}
}

func TestTake(t *testing.T) {
	for _, n := range lengths() {
		m, s := some(t, n), make(model, n)
		for i := range n {
			checkFirst(t, m, 0, i)
			checkTake(t, m, i)
			s[i] = true
			checkUsed(t, m, i, true)
			checkCount(t, m, i+1)
		}
		for range 3 {
			checkTake(t, m, -1)
		}
		checkAs(t, m, s)
		for _, i := range places(n) {
			checkSet(t, m, i, false, true)
			checkTake(t, m, i)
			checkTake(t, m, -1)
		}
		checkAs(t, m, s)
	}
}

func TestTakePassesUsedOnesAndBringsTheLeastFreedFirst(t *testing.T) {
	m := some(t, 70)
	for i := range 70 {
		m.Set(i, i%2 == 0)
	}
	for i := 1; i < 70; i += 2 {
		checkTake(t, m, i)
	}
	checkTake(t, m, -1)
	for _, i := range []int{69, 3, 64, 0, 63} {
		checkSet(t, m, i, false, true)
	}
	for _, want := range []int{0, 3, 63, 64, 69, -1} {
		checkTake(t, m, want)
	}
}

func TestLevelsOfFreeSectors(t *testing.T) {
	checkLevel(t, some(t, 1), 0, ones<<1)
	checkLevel(t, some(t, 1), 1)
	checkLevel(t, some(t, 63), 0, 1<<63)
	checkLevel(t, some(t, 64), 0, 0)
	checkLevel(t, some(t, 64), 1)
	checkLevel(t, some(t, 65), 0, 0, ones<<1)
	checkLevel(t, some(t, 65), 1, ones<<2)
	checkLevel(t, some(t, 65), 2)
	checkLevel(t, some(t, 128), 0, 0, 0)
	checkLevel(t, some(t, 128), 1, ones<<2)
	words := make([]uint64, 64)
	checkLevel(t, some(t, 4096), 0, words...)
	checkLevel(t, some(t, 4096), 1, 0)
	checkLevel(t, some(t, 4096), 2)
	words[63] = 1 << 63
	checkLevel(t, some(t, 4095), 0, words...)
	checkLevel(t, some(t, 4095), 1, 0)
	checkLevel(t, some(t, 4032), 0, words[:63]...)
	checkLevel(t, some(t, 4032), 1, 1<<63)
}

// Words become all ones, and cease to be so.
func TestLevelsOfFullWords(t *testing.T) {
	m := some(t, 130)
	for i := range 64 {
		checkLevel(t, m, 0, 1<<i-1, 0, ones<<2)
		checkLevel(t, m, 1, ones<<3)
		checkSet(t, m, i, true, true)
	}
	checkLevel(t, m, 0, ones, 0, ones<<2)
	checkLevel(t, m, 1, ones<<3+1)
	checkSet(t, m, 128, true, true)
	checkLevel(t, m, 0, ones, 0, ones<<2+1)
	checkLevel(t, m, 1, ones<<3+1)
	checkSet(t, m, 129, true, true)
	checkLevel(t, m, 0, ones, 0, ones)
	checkLevel(t, m, 1, ones<<3+5)
	checkSet(t, m, 129, true, false)
	checkLevel(t, m, 1, ones<<3+5)
	checkSet(t, m, 7, false, true)
	checkLevel(t, m, 0, ones-1<<7, 0, ones)
	checkLevel(t, m, 1, ones<<3+4)
	checkSet(t, m, 7, true, true)
	checkSet(t, m, 129, false, true)
	checkLevel(t, m, 1, ones<<3+1)
	for i := 64; i < 130; i++ {
		m.Set(i, true)
	}
	checkLevel(t, m, 0, ones, ones, ones)
	checkLevel(t, m, 1, ones)
	checkLevel(t, m, 2)
}

// Each word of the greatest maps alone: it becomes all ones, and ceases to be so at each of its edges.
func TestLevelsOfTheGreatestMaps(t *testing.T) {
	for _, n := range []int{4033, 4095, 4096} {
		for word := range 64 {
			m, s := some(t, n), make(model, n)
			for i := 64 * word; i < min(64*word+64, n); i++ {
				m.Set(i, true)
				s[i] = true
			}
			checkLevel(t, m, 1, 1<<word)
			checkAs(t, m, s)
			for _, i := range []int{64 * word, min(64*word+63, n-1)} {
				m.Set(i, false)
				checkLevel(t, m, 1, 0)
				m.Set(i, true)
				checkLevel(t, m, 1, 1<<word)
			}
		}
	}
}

func TestNoLevels(t *testing.T) {
	for _, n := range lengths() {
		m := some(t, n)
		last := 1
		if n <= 64 {
			last = 0
		}
		if l := m.Level(last); len(l) != 1 {
			t.Errorf("the last level of %d has %d words", n, len(l))
		}
		for _, k := range append(extremes(), -1, last+1, last+2) {
			if l := m.Level(k); len(l) != 0 {
				t.Errorf("Level(%d) of %d: %x", k, n, l)
			}
		}
	}
}

func TestBytes(t *testing.T) {
	m := some(t, 11)
	checkBytes(t, m, 0, 0)
	m.Set(3, true)
	m.Set(8, true)
	checkBytes(t, m, 0x10, 0x80)
	m.Set(0, true)
	m.Set(7, true)
	m.Set(10, true)
	checkBytes(t, m, 0x91, 0xa0)
	for range 5 {
		m.Take()
	}
	checkBytes(t, m, 0xff, 0xa0)
	m.Take()
	checkBytes(t, m, 0xff, 0xe0)
	one := some(t, 1)
	checkBytes(t, one, 0)
	one.Take()
	checkBytes(t, one, 0x80)
	eight := some(t, 8)
	eight.Set(7, true)
	checkBytes(t, eight, 1)
	nine := some(t, 9)
	nine.Set(8, true)
	checkBytes(t, nine, 0, 0x80)
	sixteen := some(t, 16)
	sixteen.Set(15, true)
	checkBytes(t, sixteen, 0, 1)
}

func TestBytesOfAllSectorsUsed(t *testing.T) {
	for _, n := range lengths() {
		m := some(t, n)
		for range n {
			m.Take()
		}
		want := bytes.Repeat([]byte{0xff}, (n+7)/8)
		if n%8 > 0 {
			want[n/8] = 0xff << (8 - n%8)
		}
		checkBytes(t, m, want...)
	}
}

func TestCloneIsAsItIs(t *testing.T) {
	for _, n := range lengths() {
		m, s := some(t, n), make(model, n)
		checkAs(t, m.Clone(), s)
		for k, used := range numbers(n, n, 0, 3) {
			s[k] = used > 0
			m.Set(k, s[k])
		}
		c := m.Clone()
		checkAs(t, c, s)
		if c == m {
			t.Fatal("a clone is another map")
		}
	}
}

func TestNeitherKnowsOfTheOther(t *testing.T) {
	for _, n := range lengths() {
		m, s := some(t, n), make(model, n)
		for i := 0; i < n; i += 5 {
			m.Set(i, true)
			s[i] = true
		}
		c, cs := m.Clone(), slices.Clone(s)
		m.Set(0, false)
		s.set(0, false)
		checkAs(t, c, cs)
		c.Set(n-1, !cs[n-1])
		cs.set(n-1, !cs[n-1])
		checkAs(t, m, s)
		checkTake(t, m, s.take())
		checkTake(t, m, s.take())
		checkTake(t, c, cs.take())
		checkAs(t, m, s)
		checkAs(t, c, cs)
		for range n {
			c.Take()
		}
		checkCount(t, c, n)
		checkAs(t, m, s)
		checkAs(t, m.Clone(), s)
	}
}

// What is written into lists that were handed out, and behind them, changes nothing.
func TestListsAreNewMemory(t *testing.T) {
	for _, n := range lengths() {
		m, s := some(t, n), make(model, n)
		for i := 1; i < n; i += 2 {
			m.Set(i, true)
			s[i] = true
		}
		for k := range 3 {
			l, other := m.Level(k), m.Level(k)
			was := slices.Clone(other)
			for i := range l {
				l[i] = ^l[i]
			}
			l = l[:cap(l)]
			for i := range l {
				l[i]++
			}
			if !slices.Equal(other, was) {
				t.Fatalf("two lists of level %d share memory", k)
			}
		}
		b, other := m.Bytes(), m.Bytes()
		was := bytes.Clone(other)
		for i := range b {
			b[i] = ^b[i]
		}
		if !bytes.Equal(other, was) {
			t.Fatal("two lists of bytes share memory")
		}
		checkAs(t, m, s)
	}
}

// A list that was handed out stays as it is, whatever becomes of the map.
func TestListsStay(t *testing.T) {
	m := some(t, 130)
	zero, one, b := m.Level(0), m.Level(1), m.Bytes()
	for range 130 {
		m.Take()
	}
	if !slices.Equal(zero, []uint64{0, 0, ones << 2}) || !slices.Equal(one, []uint64{ones << 3}) || !bytes.Equal(b, make([]byte, 17)) {
		t.Error(zero, one, b)
	}
}

// play does one of the calls, on the map and on the model, and holds the answers against each other.
func play(t *testing.T, m *Map, s model, what, seed int) {
	t.Helper()
	n := len(s)
	l := numbers(2, seed, -2, n+1)
	switch {
	case what < 5:
		checkSet(t, m, l[0], true, s.set(l[0], true))
	case what < 9:
		checkSet(t, m, l[0], false, s.set(l[0], false))
	case what < 12:
		checkTake(t, m, s.take())
	default:
		used := what%2 == 0
		for i := min(l[0], l[1]); i <= max(l[0], l[1]); i++ {
			checkSet(t, m, i, used, s.set(i, used))
		}
	}
}

func TestLongRunsAreAsTheModel(t *testing.T) {
	for seed, n := range []int{1, 2, 8, 11, 63, 64, 65, 128, 130, 300, 4095, 4096} {
		m, s := some(t, n), make(model, n)
		for k, what := range numbers(200, seed, 0, 15) {
			play(t, m, s, what, 1000*seed+k)
			checkAs(t, m, s)
			if k%50 == 49 {
				m, s = m.Clone(), slices.Clone(s)
			}
		}
	}
}

func TestTheSameCallsAnswerTheSame(t *testing.T) {
	one, other, s := some(t, 200), some(t, 200), make(model, 200)
	for k, what := range numbers(200, 9, 0, 15) {
		play(t, one, slices.Clone(s), what, k)
		play(t, other, s, what, k)
		checkAs(t, one, s)
		checkAs(t, other, s)
	}
}
