package refs

import (
	"math"
	"slices"
	"testing"

	"overdub/api"
)

const (
	mostInt  = math.MaxInt
	leastInt = math.MinInt
)

// lengths are tables of one sector, of some, and of all that may be.
func lengths() []int {
	return []int{1, 2, 3, 5, 63, 64, 65, 1000, api.MaxSectors - 1, api.MaxSectors}
}

// extremes are numbers that are far from every table.
func extremes() []int {
	return []int{-2, -64, -4096, -1 << 32, leastInt, leastInt + 1, 4097, 8192, 1 << 32, 1<<32 + 1, mostInt, mostInt - 1}
}

// nowhere are sectors that a table of n has not.
func nowhere(n int) []int {
	return append(extremes(), -1, -n, n, n+1, 2*n)
}

// places are sectors of n: the first ones, one in the midst, the last ones.
func places(n int) []int {
	l := []int{0, min(1, n-1), n / 2, max(n-2, 0), n - 1}
	slices.Sort(l)
	return slices.Compact(l)
}

// numbers answers count numbers from low to high, differently for each seed.
func numbers(count, seed, low, high int) []int {
	l := make([]int, count)
	for i := range l {
		seed = (seed*1103515245 + 12345) % (1 << 31)
		l[i] = low + (seed>>3)%(high-low+1)
	}
	return l
}

// all answers the sectors of n, rising.
func all(n int) []int {
	l := make([]int, n)
	for i := range l {
		l[i] = i
	}
	return l
}

func some(t *testing.T, n int) *Table {
	t.Helper()
	r, err := New(n)
	if err != api.OK || r == nil {
		t.Fatalf("New(%d): %v", n, err)
	}
	return r
}

// model is a table by the document's words: each sector stands in it as often as it was added and not dropped.
type model struct {
	sectors int
	rows    []int
}

func (s *model) isThere(i int) bool {
	return 0 <= i && i < s.sectors
}

func (s *model) add(l []int) bool {
	for _, i := range l {
		if !s.isThere(i) {
			return false
		}
	}
	s.rows = append(s.rows, l...)
	return true
}

func (s *model) drop(i int) (int, bool) {
	at := slices.Index(s.rows, i)
	if at < 0 {
		return 0, false
	}
	s.rows = slices.Delete(s.rows, at, at+1)
	return s.of(i), true
}

func (s *model) of(i int) int {
	count := 0
	for _, x := range s.rows {
		if x == i {
			count++
		}
	}
	return count
}

func (s *model) owned() []int {
	l := slices.Clone(s.rows)
	slices.Sort(l)
	return slices.Compact(l)
}

func (s *model) clone() *model {
	return &model{sectors: s.sectors, rows: slices.Clone(s.rows)}
}

func checkAdd(t *testing.T, r *Table, want bool, l ...int) {
	t.Helper()
	if r.Add(l...) != want {
		t.Fatalf("Add(%v): %v", l, !want)
	}
}

func checkDrop(t *testing.T, r *Table, i, want int, ok bool) {
	t.Helper()
	if left, is := r.Drop(i); left != want || is != ok {
		t.Fatalf("Drop(%d): %d, %v, not %d, %v", i, left, is, want, ok)
	}
}

func checkOf(t *testing.T, r *Table, i, want int) {
	t.Helper()
	if count := r.Of(i); count != want {
		t.Fatalf("Of(%d): %d, not %d", i, count, want)
	}
}

func checkOwned(t *testing.T, r *Table, want ...int) {
	t.Helper()
	if l := r.Owned(); !slices.Equal(l, want) {
		t.Fatalf("owned are %v, not %v", l, want)
	}
}

func checkSum(t *testing.T, r *Table, want int) {
	t.Helper()
	if sum := r.Sum(); sum != want {
		t.Fatalf("the sum is %d, not %d", sum, want)
	}
}

// checkAs holds all that a table shows against the model.
func checkAs(t *testing.T, r *Table, s *model) {
	t.Helper()
	counts := make([]int, s.sectors)
	for _, i := range s.rows {
		counts[i]++
	}
	for i, count := range counts {
		checkOf(t, r, i, count)
	}
	for _, i := range nowhere(s.sectors) {
		if !s.isThere(i) {
			checkOf(t, r, i, 0)
		}
	}
	checkOwned(t, r, s.owned()...)
	checkSum(t, r, len(s.rows))
}

// filled answers a table in which some sectors have counts, and its model.
func filled(t *testing.T, n int) (*Table, *model) {
	t.Helper()
	l := numbers(n, n, 0, n-1)
	r, s := some(t, n), &model{sectors: n}
	checkAdd(t, r, s.add(l), l...)
	return r, s
}

func TestNew(t *testing.T) {
	for _, n := range lengths() {
		checkAs(t, some(t, n), &model{sectors: n})
	}
}

func TestNewOfAllLengths(t *testing.T) {
	for n := 1; n <= api.MaxSectors; n++ {
		r := some(t, n)
		checkOwned(t, r)
		checkSum(t, r, 0)
		checkAdd(t, r, true, n-1)
		checkAdd(t, r, false, n)
		checkOwned(t, r, n-1)
	}
}

func TestNewOfWrongLengths(t *testing.T) {
	for _, n := range append(extremes(), 0, -1, api.MaxSectors+1, 2*api.MaxSectors) {
		if r, err := New(n); r != nil || err != api.ErrArg {
			t.Errorf("New(%d): %v", n, err)
		}
	}
}

func TestTheDocumentsExample(t *testing.T) {
	r := some(t, 3)
	checkAdd(t, r, true, 1, 1)
	checkDrop(t, r, 1, 1, true)
	checkAs(t, r, &model{sectors: 3, rows: []int{1}})
}

// Each of these sectors in a call of its own, several times.
func TestAddOfOneSector(t *testing.T) {
	for _, n := range lengths() {
		r, s := some(t, n), &model{sectors: n}
		for range 3 {
			for _, i := range places(n) {
				checkAdd(t, r, true, i)
				s.add([]int{i})
				checkAs(t, r, s)
			}
		}
		checkOf(t, r, 0, 3)
		checkOf(t, r, n-1, 3)
	}
}

func TestAddOfSeveralSectors(t *testing.T) {
	for _, c := range []struct {
		l, counts []int
	}{
		{[]int{0}, []int{1, 0, 0, 0, 0}},
		{[]int{4}, []int{0, 0, 0, 0, 1}},
		{[]int{1, 1}, []int{0, 2, 0, 0, 0}},
		{[]int{3, 1, 3}, []int{0, 1, 0, 2, 0}},
		{[]int{3, 3, 1}, []int{0, 1, 0, 2, 0}},
		{[]int{1, 3, 3}, []int{0, 1, 0, 2, 0}},
		{[]int{4, 3, 2, 1, 0}, []int{1, 1, 1, 1, 1}},
		{[]int{0, 1, 2, 3, 4}, []int{1, 1, 1, 1, 1}},
		{[]int{2, 2, 2, 2, 2, 2, 2}, []int{0, 0, 7, 0, 0}},
		{[]int{4, 0, 4, 0, 4}, []int{2, 0, 0, 0, 3}},
	} {
		one, each, twice := some(t, 5), some(t, 5), some(t, 5)
		checkAdd(t, one, true, c.l...)
		checkAdd(t, twice, true, c.l...)
		checkAdd(t, twice, true, c.l...)
		for _, i := range c.l {
			checkAdd(t, each, true, i)
		}
		for i, count := range c.counts {
			checkOf(t, one, i, count)
			checkOf(t, each, i, count)
			checkOf(t, twice, i, 2*count)
		}
		checkSum(t, one, len(c.l))
		checkSum(t, each, len(c.l))
		checkSum(t, twice, 2*len(c.l))
	}
}

// All sectors in one call, rising and falling, and each twice.
func TestAddOfAllSectors(t *testing.T) {
	for _, n := range lengths() {
		l := all(n)
		r, s := some(t, n), &model{sectors: n}
		checkAdd(t, r, true, l...)
		s.add(l)
		checkAs(t, r, s)
		slices.Reverse(l)
		l = append(l, l...)
		checkAdd(t, r, true, l...)
		s.add(l)
		checkAs(t, r, s)
		checkOf(t, r, n-1, 3)
	}
}

func TestAddOfNoSectors(t *testing.T) {
	for _, n := range lengths() {
		r := some(t, n)
		checkAdd(t, r, true)
		checkAdd(t, r, true, []int{}...)
		checkAs(t, r, &model{sectors: n})
		r, s := filled(t, n)
		checkAdd(t, r, true)
		checkAdd(t, r, true, []int{}...)
		checkAs(t, r, s)
	}
}

// One that is none, at each place of the list, beside sectors with counts and without.
func TestAddOfNoSector(t *testing.T) {
	for _, n := range lengths() {
		r, s := filled(t, n)
		for _, i := range nowhere(n) {
			if s.isThere(i) {
				continue
			}
			checkAdd(t, r, false, i)
			checkAdd(t, r, false, i, i)
			for at := range 4 {
				checkAdd(t, r, false, slices.Insert([]int{0, n - 1, n / 2}, at, i)...)
				checkAdd(t, r, false, slices.Insert([]int{0, 0, 0}, at, i)...)
			}
			checkAdd(t, r, false, -1, i, 0)
			checkAdd(t, r, false, 0, i, n)
			checkOf(t, r, i, 0)
			checkDrop(t, r, i, 0, false)
		}
		checkAs(t, r, s)
	}
}

// A long list whose last one is none does nothing, though all others are sectors.
func TestAddOfManyAndNone(t *testing.T) {
	for _, n := range lengths() {
		r := some(t, n)
		checkAdd(t, r, false, append(all(n), n)...)
		checkAdd(t, r, false, append(all(n), -1)...)
		checkAdd(t, r, false, append([]int{n}, all(n)...)...)
		checkAs(t, r, &model{sectors: n})
	}
}

func TestDrop(t *testing.T) {
	for _, n := range lengths() {
		for _, i := range places(n) {
			r, s := filled(t, n)
			checkAdd(t, r, s.add([]int{i, i, i}), i, i, i)
			for left := s.of(i) - 1; left >= 0; left-- {
				checkDrop(t, r, i, left, true)
				s.drop(i)
				checkAs(t, r, s)
			}
			for range 3 {
				checkDrop(t, r, i, 0, false)
				checkAs(t, r, s)
			}
			checkAdd(t, r, true, i)
			checkDrop(t, r, i, 0, true)
			checkDrop(t, r, i, 0, false)
			checkAs(t, r, s)
		}
	}
}

// Nothing is left of a new table's sectors, nor of those that are not there.
func TestDropOfNone(t *testing.T) {
	for _, n := range lengths() {
		r := some(t, n)
		for i := range n {
			checkDrop(t, r, i, 0, false)
		}
		checkAs(t, r, &model{sectors: n})
		r, s := filled(t, n)
		for _, i := range nowhere(n) {
			if !s.isThere(i) {
				checkDrop(t, r, i, 0, false)
			}
		}
		checkAs(t, r, s)
	}
}

// What is added and dropped as often is as it was, in whichever order it is dropped.
func TestWhatIsDroppedAsOften(t *testing.T) {
	for _, n := range lengths() {
		r, s := filled(t, n)
		l := numbers(30, n+1, 0, n-1)
		checkAdd(t, r, true, l...)
		for _, i := range l {
			r.Drop(i)
		}
		checkAs(t, r, s)
		checkAdd(t, r, true, l...)
		slices.Reverse(l)
		for _, i := range l {
			r.Drop(i)
		}
		checkAs(t, r, s)
		for _, i := range slices.Clone(s.rows) {
			left, ok := s.drop(i)
			checkDrop(t, r, i, left, ok)
		}
		checkAs(t, r, &model{sectors: n})
	}
}

func TestOf(t *testing.T) {
	r := some(t, 4)
	checkAdd(t, r, true, 3, 0, 3, 3)
	for i, count := range map[int]int{leastInt: 0, -2: 0, -1: 0, 0: 1, 1: 0, 2: 0, 3: 3, 4: 0, 5: 0, 1 << 32: 0, mostInt: 0} {
		checkOf(t, r, i, count)
	}
}

func TestOwned(t *testing.T) {
	r := some(t, 100)
	checkOwned(t, r)
	checkAdd(t, r, true, 99, 64, 0, 7, 64, 63)
	checkOwned(t, r, 0, 7, 63, 64, 99)
	r.Drop(64)
	checkOwned(t, r, 0, 7, 63, 64, 99)
	r.Drop(64)
	checkOwned(t, r, 0, 7, 63, 99)
	r.Drop(0)
	r.Drop(99)
	checkOwned(t, r, 7, 63)
	checkAdd(t, r, true, 1)
	checkOwned(t, r, 1, 7, 63)
	for _, i := range []int{63, 1, 7} {
		r.Drop(i)
	}
	checkOwned(t, r)
}

func TestSum(t *testing.T) {
	r := some(t, api.MaxSectors)
	sum := 0
	for i := range 1000 {
		checkAdd(t, r, true, slices.Repeat([]int{i * 4}, i%7)...)
		sum += i % 7
		checkSum(t, r, sum)
	}
	for i := range 1000 {
		if _, ok := r.Drop(i * 4); ok {
			sum--
		}
		checkSum(t, r, sum)
	}
}

// Counts of many, in one call and in several.
func TestGreatCounts(t *testing.T) {
	r := some(t, 2)
	many := slices.Repeat([]int{1}, 70000)
	checkAdd(t, r, true, many...)
	checkAdd(t, r, true, many...)
	checkOf(t, r, 1, 140000)
	checkOf(t, r, 0, 0)
	checkSum(t, r, 140000)
	checkDrop(t, r, 1, 139999, true)
	checkOwned(t, r, 1)
}

func TestCloneIsAsItIs(t *testing.T) {
	for _, n := range lengths() {
		checkAs(t, some(t, n).Clone(), &model{sectors: n})
		r, s := filled(t, n)
		c := r.Clone()
		checkAs(t, c, s)
		checkAs(t, c.Clone(), s)
		if c == r {
			t.Fatal("a clone is another table")
		}
	}
}

func TestNeitherKnowsOfTheOther(t *testing.T) {
	for _, n := range lengths() {
		r, s := filled(t, n)
		c, cs := r.Clone(), s.clone()
		checkAdd(t, r, s.add([]int{0, n - 1}), 0, n-1)
		checkAs(t, c, cs)
		checkAs(t, r, s)
		checkAdd(t, c, cs.add([]int{n / 2, n - 1, n - 1}), n/2, n-1, n-1)
		checkAs(t, r, s)
		checkAs(t, c, cs)
		for _, i := range slices.Clone(cs.rows) {
			left, ok := cs.drop(i)
			checkDrop(t, c, i, left, ok)
		}
		checkAs(t, c, &model{sectors: n})
		checkAs(t, r, s)
		left, ok := s.drop(0)
		checkDrop(t, r, 0, left, ok)
		checkAs(t, c, &model{sectors: n})
		checkAs(t, r.Clone(), s)
	}
}

// What is written into a list that was handed out, and behind it, changes nothing.
func TestListsAreNewMemory(t *testing.T) {
	for _, n := range lengths() {
		r, s := filled(t, n)
		l, other := r.Owned(), r.Owned()
		l = l[:cap(l)]
		for i := range l {
			l[i] = -7
		}
		if !slices.Equal(other, s.owned()) {
			t.Fatal("two lists share memory")
		}
		checkAs(t, r, s)
	}
}

// A list that was handed out stays as it is, whatever becomes of the table.
func TestListsStay(t *testing.T) {
	r := some(t, 9)
	checkAdd(t, r, true, 8, 2, 5)
	l := r.Owned()
	checkAdd(t, r, true, 0, 1)
	r.Drop(5)
	if !slices.Equal(l, []int{2, 5, 8}) {
		t.Error(l)
	}
}

// A list that is handed in is neither changed nor kept, and what lies behind it is left alone.
func TestListsHandedIn(t *testing.T) {
	memory := []int{3, 1, 3, 0, 9, 2}
	l := memory[:4]
	r, s := some(t, 4), &model{sectors: 4, rows: []int{3, 1, 3, 0}}
	checkAdd(t, r, true, l...)
	if !slices.Equal(memory, []int{3, 1, 3, 0, 9, 2}) {
		t.Error(memory)
	}
	checkAs(t, r, s)
	for i := range memory {
		memory[i] = 2
	}
	checkAs(t, r, s)
	memory = []int{2, 4, 1, 0}
	checkAdd(t, r, false, memory[:3]...)
	if !slices.Equal(memory, []int{2, 4, 1, 0}) {
		t.Error(memory)
	}
	memory[1] = 2
	checkAs(t, r, s)
}

// play does one of the calls, on the table and on the model, and holds the answers against each other.
func play(t *testing.T, r *Table, s *model, what, seed int) {
	t.Helper()
	n := s.sectors
	switch {
	case what < 4:
		l := numbers(seed%9, seed, 0, n-1)
		checkAdd(t, r, s.add(l), l...)
	case what < 6:
		l := numbers(seed%9, seed, -1, n)
		checkAdd(t, r, s.add(l), l...)
	case what < 8:
		i := numbers(1, seed, -1, n)[0]
		left, ok := s.drop(i)
		checkDrop(t, r, i, left, ok)
	default:
		for _, i := range s.owned() {
			left, ok := s.drop(i)
			checkDrop(t, r, i, left, ok)
		}
	}
}

func TestLongRunsAreAsTheModel(t *testing.T) {
	for seed, n := range []int{1, 2, 3, 8, 64, 65, 300, 4095, 4096} {
		r, s := some(t, n), &model{sectors: n}
		for k, what := range numbers(300, seed, 0, 8) {
			play(t, r, s, what, 1000*seed+k)
			checkAs(t, r, s)
			if k%50 == 49 {
				r, s = r.Clone(), s.clone()
			}
		}
	}
}

func TestTheSameCallsAnswerTheSame(t *testing.T) {
	one, other, s := some(t, 50), some(t, 50), &model{sectors: 50}
	for k, what := range numbers(200, 9, 0, 8) {
		play(t, one, s.clone(), what, k)
		play(t, other, s, what, k)
		checkAs(t, one, s)
		checkAs(t, other, s)
	}
}
