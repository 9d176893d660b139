package space

import (
	"fmt"
	"math"
	"slices"
	"testing"

	"overdub/api"
)

const (
	mostInt  = math.MaxInt
	leastInt = math.MinInt
)

// kind is how long a space is, and how many of its sectors are fixed.
type kind struct {
	n, fixed int
}

// kinds are spaces of one sector, of some, and of all that may be; none fixed, some, all.
func kinds() []kind {
	var l []kind
	for _, n := range []int{1, 2, 3, 5, 63, 64, 65, 200, api.MaxSectors - 1, api.MaxSectors} {
		some := []int{0, 1, 2, n / 2, n - 2, n - 1, n}
		slices.Sort(some)
		for _, fixed := range slices.Compact(some) {
			if fixed >= 0 && fixed <= n {
				l = append(l, kind{n, fixed})
			}
		}
	}
	return l
}

// short are the kinds that are quick to hold against the model often.
func short() []kind {
	return slices.DeleteFunc(kinds(), func(k kind) bool { return k.n > 200 })
}

// extremes are numbers that are far from every space.
func extremes() []int {
	return []int{-2, -64, -4096, -1 << 32, leastInt, leastInt + 1, 4097, 8192, 1 << 32, 1<<32 + 1, mostInt, mostInt - 1}
}

// strange are the sectors of a space that nobody can have: those that it has not, and fixed ones.
func strange(k kind) []int {
	l := append(extremes(), -1, -k.n, k.n, k.n+1, 2*k.n, 0, k.fixed/2, k.fixed-1)
	return slices.DeleteFunc(l, func(i int) bool { return k.fixed <= i && i < k.n })
}

// places are sectors that are not fixed: the first ones, one in the midst, the last ones.
func places(k kind) []int {
	l := []int{k.fixed, k.fixed + 1, (k.fixed + k.n) / 2, k.n - 2, k.n - 1}
	l = slices.DeleteFunc(l, func(i int) bool { return i < k.fixed || i >= k.n })
	slices.Sort(l)
	return slices.Compact(l)
}

// numbers answers count numbers from low to high, differently for each seed.
func numbers(count, seed, low, high int) []int {
	l := make([]int, count)
	for i := range l {
		seed = (seed*1103515245 + 12345) % (1 << 31)
		l[i] = low + (seed>>3)%(high-low+1)
	}
	return l
}

// from answers the numbers from low to below high, rising.
func from(low, high int) []int {
	var l []int
	for i := low; i < high; i++ {
		l = append(l, i)
	}
	return l
}

func some(t *testing.T, k kind) *Space {
	t.Helper()
	s, err := New(k.n, k.fixed)
	if err != api.OK || s == nil {
		t.Fatalf("New(%d, %d): %v", k.n, k.fixed, err)
	}
	return s
}

// model is a space by the document's words: a row of what each sector is.
type model struct {
	kind
	counts []int
	waits  []bool
}

func newModel(k kind) *model {
	return &model{k, make([]int, k.n), make([]bool, k.n)}
}

func (m *model) isThere(i int) bool {
	return 0 <= i && i < m.n
}

func (m *model) free(i int) bool {
	return m.isThere(i) && i >= m.fixed && m.counts[i] == 0 && !m.waits[i]
}

func (m *model) of(i int) int {
	if !m.isThere(i) {
		return 0
	}
	return m.counts[i]
}

func (m *model) frees() []int {
	return slices.DeleteFunc(from(0, m.n), func(i int) bool { return !m.free(i) })
}

func (m *model) waiting() []int {
	return slices.DeleteFunc(from(0, m.n), func(i int) bool { return !m.waits[i] })
}

func (m *model) take() (int, api.Errno) {
	l := m.frees()
	if len(l) == 0 {
		return 0, api.ErrFull
	}
	m.counts[l[0]] = 1
	return l[0], api.OK
}

func (m *model) share(i int) bool {
	if m.of(i) == 0 {
		return false
	}
	m.counts[i]++
	return true
}

func (m *model) drop(i int) bool {
	if m.of(i) == 0 {
		return false
	}
	m.counts[i]--
	m.waits[i] = m.counts[i] == 0
	return true
}

func (m *model) commit() int {
	count := len(m.waiting())
	clear(m.waits)
	return count
}

func (m *model) keep(l []int) bool {
	for _, i := range l {
		if i < m.fixed || i >= m.n {
			return false
		}
	}
	clear(m.waits)
	clear(m.counts)
	for _, i := range l {
		m.counts[i]++
	}
	return true
}

func (m *model) clone() *model {
	return &model{m.kind, slices.Clone(m.counts), slices.Clone(m.waits)}
}

func checkTake(t *testing.T, s *Space, want int, wantErr api.Errno) {
	t.Helper()
	if i, err := s.Take(); i != want || err != wantErr {
		t.Fatalf("Take: %d, %v, not %d, %v", i, err, want, wantErr)
	}
}

func checkShare(t *testing.T, s *Space, i int, want bool) {
	t.Helper()
	if s.Share(i) != want {
		t.Fatalf("Share(%d): %v", i, !want)
	}
}

func checkDrop(t *testing.T, s *Space, i int, want bool) {
	t.Helper()
	if s.Drop(i) != want {
		t.Fatalf("Drop(%d): %v", i, !want)
	}
}

func checkCommit(t *testing.T, s *Space, want int) {
	t.Helper()
	if count := s.Commit(); count != want {
		t.Fatalf("Commit: %d, not %d", count, want)
	}
}

func checkKeep(t *testing.T, s *Space, want bool, l ...int) {
	t.Helper()
	if s.Keep(l...) != want {
		t.Fatalf("Keep(%v): %v", l, !want)
	}
}

func checkFree(t *testing.T, s *Space, want int) {
	t.Helper()
	if count := s.Free(); count != want {
		t.Fatalf("%d are free, not %d", count, want)
	}
}

func checkWaiting(t *testing.T, s *Space, want ...int) {
	t.Helper()
	if l := s.Waiting(); !slices.Equal(l, want) {
		t.Fatalf("waiting are %v, not %v", l, want)
	}
}

// checkSector holds what is told of a sector.
func checkSector(t *testing.T, s *Space, i int, used bool, count int) {
	t.Helper()
	if s.Used(i) != used || s.Of(i) != count {
		t.Fatalf("sector %d: used %v, count %d, not %v, %d", i, s.Used(i), s.Of(i), used, count)
	}
}

// checkAs holds all that a space shows against the model.
func checkAs(t *testing.T, s *Space, m *model) {
	t.Helper()
	for i := range m.n {
		checkSector(t, s, i, !m.free(i), m.counts[i])
	}
	for _, i := range strange(m.kind) {
		checkSector(t, s, i, true, 0)
	}
	checkFree(t, s, len(m.frees()))
	checkWaiting(t, s, m.waiting()...)
}

// all that a space has to take is taken.
func takeAll(t *testing.T, s *Space, m *model) {
	t.Helper()
	for _, i := range m.frees() {
		checkTake(t, s, i, api.OK)
		m.counts[i] = 1
	}
}

// filled answers a space some of whose sectors have counts, some wait, and some are free, where it has so many; and its model.
func filled(t *testing.T, k kind) (*Space, *model) {
	t.Helper()
	s, m := some(t, k), newModel(k)
	takeAll(t, s, m)
	for i := k.fixed; i < k.n; i += 3 {
		checkDrop(t, s, i, m.drop(i))
	}
	checkCommit(t, s, m.commit())
	for i := k.fixed + 1; i < k.n; i += 3 {
		checkDrop(t, s, i, m.drop(i))
	}
	for i := k.fixed + 2; i < k.n; i += 6 {
		checkShare(t, s, i, m.share(i))
	}
	return s, m
}

func TestNew(t *testing.T) {
	for _, k := range kinds() {
		s := some(t, k)
		checkAs(t, s, newModel(k))
		checkFree(t, s, k.n-k.fixed)
		for i := range k.n {
			checkSector(t, s, i, i < k.fixed, 0)
		}
	}
}

func TestNewOfAllLengths(t *testing.T) {
	for n := 1; n <= api.MaxSectors; n++ {
		s := some(t, kind{n, n - 1})
		checkFree(t, s, 1)
		checkTake(t, s, n-1, api.OK)
		checkTake(t, s, 0, api.ErrFull)
	}
}

func TestNewOfAllFixed(t *testing.T) {
	for fixed := range 301 {
		s := some(t, kind{300, fixed})
		checkFree(t, s, 300-fixed)
		checkSector(t, s, fixed-1, true, 0)
		checkSector(t, s, fixed, fixed == 300, 0)
		checkWaiting(t, s)
	}
}

func checkNoSpace(t *testing.T, n, fixed int) {
	t.Helper()
	if s, err := New(n, fixed); s != nil || err != api.ErrArg {
		t.Errorf("New(%d, %d): %v", n, fixed, err)
	}
}

func TestNewOfWrongLengths(t *testing.T) {
	for _, n := range append(extremes(), 0, -1, api.MaxSectors+1, 2*api.MaxSectors) {
		for _, fixed := range append(extremes(), -1, 0, 1, n-1, n, n+1) {
			checkNoSpace(t, n, fixed)
		}
	}
}

func TestNewOfWrongFixed(t *testing.T) {
	for _, k := range kinds() {
		for _, fixed := range append(extremes(), -1, -k.n, k.n+1, k.n+2) {
			if fixed < 0 || fixed > k.n {
				checkNoSpace(t, k.n, fixed)
			}
		}
	}
}

func TestTheDocumentsExample(t *testing.T) {
	s := some(t, kind{4, 2})
	checkTake(t, s, 2, api.OK)
	checkDrop(t, s, 2, true)
	checkFree(t, s, 1)
	checkCommit(t, s, 1)
	checkFree(t, s, 2)
}

func TestTake(t *testing.T) {
	for _, k := range short() {
		s, m := some(t, k), newModel(k)
		for i := k.fixed; i < k.n; i++ {
			checkTake(t, s, i, api.OK)
			m.counts[i] = 1
			checkAs(t, s, m)
		}
		for range 3 {
			checkTake(t, s, 0, api.ErrFull)
			checkAs(t, s, m)
		}
	}
}

func TestTakeOfMany(t *testing.T) {
	for _, k := range kinds() {
		s, m := some(t, k), newModel(k)
		for i := k.fixed; i < k.n; i++ {
			checkTake(t, s, i, api.OK)
			m.counts[i] = 1
		}
		checkTake(t, s, 0, api.ErrFull)
		checkAs(t, s, m)
	}
}

// The least free one is taken, whatever was dropped and committed in between.
func TestTakeIsTheLeastFree(t *testing.T) {
	s := some(t, kind{10, 2})
	for i := 2; i < 8; i++ {
		checkTake(t, s, i, api.OK)
	}
	checkDrop(t, s, 6, true)
	checkDrop(t, s, 3, true)
	checkTake(t, s, 8, api.OK)
	checkCommit(t, s, 2)
	checkTake(t, s, 3, api.OK)
	checkDrop(t, s, 2, true)
	checkTake(t, s, 6, api.OK)
	checkTake(t, s, 9, api.OK)
	checkTake(t, s, 0, api.ErrFull)
	checkCommit(t, s, 1)
	checkTake(t, s, 2, api.OK)
	checkTake(t, s, 0, api.ErrFull)
	for i := 2; i < 10; i++ {
		checkSector(t, s, i, true, 1)
	}
}

// Where all that is not taken waits, nothing can be taken till it is committed.
func TestTakeWhereSomeWait(t *testing.T) {
	for _, k := range kinds() {
		for _, i := range places(k) {
			s, m := some(t, k), newModel(k)
			takeAll(t, s, m)
			checkDrop(t, s, i, m.drop(i))
			checkTake(t, s, 0, api.ErrFull)
			checkAs(t, s, m)
			checkCommit(t, s, 1)
			checkTake(t, s, i, api.OK)
			checkTake(t, s, 0, api.ErrFull)
			checkSector(t, s, i, true, 1)
		}
	}
}

// A sector that was shared has a count of 1 when it is taken anew.
func TestTakeCountsOne(t *testing.T) {
	s := some(t, kind{2, 1})
	checkTake(t, s, 1, api.OK)
	checkShare(t, s, 1, true)
	checkDrop(t, s, 1, true)
	checkDrop(t, s, 1, true)
	checkCommit(t, s, 1)
	checkTake(t, s, 1, api.OK)
	checkSector(t, s, 1, true, 1)
	checkDrop(t, s, 1, true)
	checkWaiting(t, s, 1)
}

func TestShare(t *testing.T) {
	for _, k := range kinds() {
		s, m := some(t, k), newModel(k)
		takeAll(t, s, m)
		for count := 2; count < 5; count++ {
			for _, i := range places(k) {
				checkShare(t, s, i, true)
				m.counts[i]++
				checkSector(t, s, i, true, count)
			}
			checkAs(t, s, m)
		}
	}
}

// Neither a free one is shared, nor one that waits, a fixed one or none.
func TestShareOfNone(t *testing.T) {
	for _, k := range kinds() {
		s, m := filled(t, k)
		for _, i := range strange(k) {
			checkShare(t, s, i, false)
		}
		for i := range k.n {
			if m.counts[i] == 0 {
				checkShare(t, s, i, false)
			}
		}
		checkAs(t, s, m)
		fresh := some(t, k)
		for _, i := range places(k) {
			checkShare(t, fresh, i, false)
		}
		checkAs(t, fresh, newModel(k))
	}
}

// A sector waits when its last count is dropped, and not before.
func TestDrop(t *testing.T) {
	for _, k := range kinds() {
		for _, i := range places(k) {
			s, m := some(t, k), newModel(k)
			takeAll(t, s, m)
			checkShare(t, s, i, true)
			checkShare(t, s, i, true)
			for left := 2; left >= 1; left-- {
				checkDrop(t, s, i, true)
				checkSector(t, s, i, true, left)
				checkWaiting(t, s)
			}
			checkDrop(t, s, i, true)
			checkSector(t, s, i, true, 0)
			checkWaiting(t, s, i)
			for range 2 {
				checkDrop(t, s, i, false)
				checkShare(t, s, i, false)
			}
			m.counts[i], m.waits[i] = 0, true
			checkAs(t, s, m)
		}
	}
}

// Neither a free one is dropped, nor one that waits, a fixed one or none.
func TestDropOfNone(t *testing.T) {
	for _, k := range kinds() {
		s, m := filled(t, k)
		for _, i := range strange(k) {
			checkDrop(t, s, i, false)
		}
		for i := range k.n {
			if m.counts[i] == 0 {
				checkDrop(t, s, i, false)
			}
		}
		checkAs(t, s, m)
		fresh := some(t, k)
		for _, i := range places(k) {
			checkDrop(t, fresh, i, false)
		}
		checkAs(t, fresh, newModel(k))
	}
}

// Just those that wait are free behind it.
func TestCommit(t *testing.T) {
	for _, k := range kinds() {
		s, m := filled(t, k)
		waits := m.waiting()
		checkCommit(t, s, len(waits))
		for _, i := range waits {
			checkSector(t, s, i, false, 0)
			checkShare(t, s, i, false)
			checkDrop(t, s, i, false)
			m.waits[i] = false
		}
		checkAs(t, s, m)
		for range 2 {
			checkCommit(t, s, 0)
			checkAs(t, s, m)
		}
	}
}

func TestCommitOfNone(t *testing.T) {
	for _, k := range kinds() {
		s, m := some(t, k), newModel(k)
		checkCommit(t, s, 0)
		checkAs(t, s, m)
		takeAll(t, s, m)
		checkCommit(t, s, 0)
		checkAs(t, s, m)
	}
}

func TestCommitOfAll(t *testing.T) {
	for _, k := range kinds() {
		s, m := some(t, k), newModel(k)
		takeAll(t, s, m)
		for i := k.n - 1; i >= k.fixed; i-- {
			checkDrop(t, s, i, true)
		}
		checkWaiting(t, s, from(k.fixed, k.n)...)
		checkFree(t, s, 0)
		checkCommit(t, s, k.n-k.fixed)
		checkAs(t, s, newModel(k))
	}
}

func TestKeep(t *testing.T) {
	for _, c := range []struct {
		l, counts []int
	}{
		{nil, []int{0, 0, 0, 0, 0, 0, 0}},
		{[]int{}, []int{0, 0, 0, 0, 0, 0, 0}},
		{[]int{2}, []int{0, 0, 1, 0, 0, 0, 0}},
		{[]int{6}, []int{0, 0, 0, 0, 0, 0, 1}},
		{[]int{4, 4}, []int{0, 0, 0, 0, 2, 0, 0}},
		{[]int{6, 2, 6}, []int{0, 0, 1, 0, 0, 0, 2}},
		{[]int{3, 3, 5}, []int{0, 0, 0, 2, 0, 1, 0}},
		{[]int{5, 3, 3}, []int{0, 0, 0, 2, 0, 1, 0}},
		{[]int{6, 5, 4, 3, 2}, []int{0, 0, 1, 1, 1, 1, 1}},
		{[]int{2, 3, 4, 5, 6}, []int{0, 0, 1, 1, 1, 1, 1}},
		{[]int{5, 5, 5, 5, 5, 2}, []int{0, 0, 1, 0, 0, 5, 0}},
	} {
		k := kind{7, 2}
		m := newModel(k)
		m.counts = c.counts
		s, _ := filled(t, k)
		for _, s := range []*Space{some(t, k), s} {
			for range 2 {
				checkKeep(t, s, true, c.l...)
				checkAs(t, s, m)
			}
			checkCommit(t, s, 0)
			checkAs(t, s, m)
		}
	}
}

// Kept ones are shared and dropped as taken ones are, as often as they stood in the list.
func TestWhatIsKeptIsDropped(t *testing.T) {
	s := some(t, kind{4, 1})
	checkKeep(t, s, true, 3, 1, 3)
	checkTake(t, s, 2, api.OK)
	checkTake(t, s, 0, api.ErrFull)
	checkShare(t, s, 1, true)
	checkDrop(t, s, 3, true)
	checkWaiting(t, s)
	checkDrop(t, s, 3, true)
	checkWaiting(t, s, 3)
	checkDrop(t, s, 3, false)
	checkDrop(t, s, 1, true)
	checkWaiting(t, s, 3)
	checkDrop(t, s, 1, true)
	checkWaiting(t, s, 1, 3)
	checkCommit(t, s, 2)
	checkTake(t, s, 1, api.OK)
	checkSector(t, s, 2, true, 1)
}

// Nothing of what was there stays: neither counts nor what waits, be it kept or not.
func TestKeepOfKinds(t *testing.T) {
	for _, k := range kinds() {
		s, m := filled(t, k)
		l := append(places(k), places(k)...)
		checkKeep(t, s, true, l...)
		checkWaiting(t, s)
		m = newModel(k)
		for _, i := range places(k) {
			m.counts[i] = 2
		}
		checkAs(t, s, m)
		checkKeep(t, s, true, from(k.fixed, k.n)...)
		checkFree(t, s, 0)
		checkKeep(t, s, true)
		checkAs(t, s, newModel(k))
		takeAll(t, s, newModel(k))
	}
}

// One that is fixed or is none, wherever it stands in the list.
func TestKeepOfNone(t *testing.T) {
	for _, k := range kinds() {
		s, m := filled(t, k)
		l := places(k)
		for _, i := range strange(k) {
			checkKeep(t, s, false, i)
			checkKeep(t, s, false, i, i)
			for at := range len(l) + 1 {
				checkKeep(t, s, false, slices.Insert(slices.Clone(l), at, i)...)
			}
		}
		checkKeep(t, s, false, append(from(k.fixed, k.n), k.n)...)
		checkKeep(t, s, false, append(from(k.fixed, k.n), k.fixed-1)...)
		checkKeep(t, s, false, from(k.fixed-1, k.n)...)
		checkKeep(t, s, false, from(k.fixed, k.n+1)...)
		checkAs(t, s, m)
		checkCommit(t, s, m.commit())
		checkAs(t, s, m)
	}
}

// Fixed ones are used for ever and have no count, whatever is done.
func TestFixedForEver(t *testing.T) {
	for _, k := range short() {
		s, m := some(t, k), newModel(k)
		for step := range 3 {
			for i := range k.fixed {
				checkShare(t, s, i, false)
				checkDrop(t, s, i, false)
				checkKeep(t, s, false, i)
				checkSector(t, s, i, true, 0)
			}
			checkAs(t, s, m)
			takeAll(t, s, m)
			for i := k.fixed + step; i < k.n; i++ {
				checkDrop(t, s, i, m.drop(i))
			}
			checkAs(t, s, m)
			checkCommit(t, s, m.commit())
			checkKeep(t, s, m.keep(nil))
		}
	}
}

func TestWaitingIsRising(t *testing.T) {
	s := some(t, kind{9, 1})
	takeAll(t, s, newModel(kind{9, 1}))
	checkWaiting(t, s)
	for _, step := range []struct {
		i    int
		want []int
	}{
		{5, []int{5}}, {8, []int{5, 8}}, {1, []int{1, 5, 8}}, {6, []int{1, 5, 6, 8}}, {2, []int{1, 2, 5, 6, 8}},
	} {
		checkDrop(t, s, step.i, true)
		checkWaiting(t, s, step.want...)
		checkDrop(t, s, step.i, false)
		checkWaiting(t, s, step.want...)
	}
	checkCommit(t, s, 5)
	checkWaiting(t, s)
	checkDrop(t, s, 7, true)
	checkWaiting(t, s, 7)
}

// What is fixed, what has a count, what waits and what is free is all there is.
func TestAllThereIs(t *testing.T) {
	for _, k := range short() {
		s := some(t, k)
		for step, what := range numbers(60, k.n+k.fixed, 0, 8) {
			play(t, s, newPlayed(s, k), what, step)
			counted := 0
			for i := range k.n {
				if s.Of(i) > 0 {
					counted++
				}
			}
			if all := k.fixed + counted + len(s.Waiting()) + s.Free(); all != k.n {
				t.Fatalf("%d of %d sectors", all, k.n)
			}
		}
	}
}

// newPlayed answers a model of a space by what it shows.
func newPlayed(s *Space, k kind) *model {
	m := newModel(k)
	for i := range k.n {
		m.counts[i] = s.Of(i)
	}
	for _, i := range s.Waiting() {
		m.waits[i] = true
	}
	return m
}

func TestGreatCounts(t *testing.T) {
	s := some(t, kind{3, 1})
	checkKeep(t, s, true, slices.Repeat([]int{2}, 70000)...)
	checkSector(t, s, 2, true, 70000)
	for range 70000 {
		checkShare(t, s, 2, true)
	}
	checkSector(t, s, 2, true, 140000)
	checkDrop(t, s, 2, true)
	checkSector(t, s, 2, true, 139999)
	checkFree(t, s, 1)
	checkWaiting(t, s)
}

func TestCloneIsAsItIs(t *testing.T) {
	for _, k := range kinds() {
		checkAs(t, some(t, k).Clone(), newModel(k))
		s, m := filled(t, k)
		c := s.Clone()
		checkAs(t, c, m)
		checkAs(t, c.Clone(), m)
		if c == s {
			t.Fatal("a clone is another space")
		}
		checkKeep(t, c, false, k.fixed-1)
		checkKeep(t, c, false, k.n)
		checkCommit(t, c, len(m.waiting()))
		checkAs(t, s, m)
	}
}

// do is one change, on a space and on its model.
type do func(t *testing.T, s *Space, m *model)

// changes are all that may become of a space, a call each.
func changes(k kind) []do {
	l := []do{
		func(t *testing.T, s *Space, m *model) {
			i, err := m.take()
			checkTake(t, s, i, err)
		},
		func(t *testing.T, s *Space, m *model) { checkCommit(t, s, m.commit()) },
		func(t *testing.T, s *Space, m *model) { checkKeep(t, s, m.keep(nil)) },
		func(t *testing.T, s *Space, m *model) { checkKeep(t, s, m.keep(places(k)), places(k)...) },
	}
	for i := k.fixed; i < min(k.n, k.fixed+6); i++ {
		l = append(l, func(t *testing.T, s *Space, m *model) { checkShare(t, s, i, m.share(i)) })
		l = append(l, func(t *testing.T, s *Space, m *model) { checkDrop(t, s, i, m.drop(i)) })
	}
	return l
}

func TestNeitherKnowsOfTheOther(t *testing.T) {
	for _, k := range short() {
		for _, change := range changes(k) {
			for _, other := range changes(k) {
				s, m := filled(t, k)
				c, was := s.Clone(), m.clone()
				change(t, s, m)
				checkAs(t, c, was)
				checkAs(t, s, m)
				other(t, c, was)
				checkAs(t, s, m)
				checkAs(t, c, was)
			}
		}
	}
}

// What is written into a list that was handed out, and behind it, changes nothing.
func TestListsAreNewMemory(t *testing.T) {
	for _, k := range kinds() {
		s, m := filled(t, k)
		l, other := s.Waiting(), s.Waiting()
		l = l[:cap(l)]
		for i := range l {
			l[i] = -7
		}
		if !slices.Equal(other, m.waiting()) {
			t.Fatal("two lists share memory")
		}
		checkAs(t, s, m)
		checkCommit(t, s, m.commit())
		checkAs(t, s, m)
	}
}

// A list that was handed out stays as it is, whatever becomes of the space.
func TestListsStay(t *testing.T) {
	s := some(t, kind{9, 1})
	takeAll(t, s, newModel(kind{9, 1}))
	for _, i := range []int{8, 2, 5} {
		checkDrop(t, s, i, true)
	}
	l := s.Waiting()
	checkDrop(t, s, 1, true)
	checkCommit(t, s, 4)
	checkKeep(t, s, true, 7)
	if !slices.Equal(l, []int{2, 5, 8}) {
		t.Error(l)
	}
}

// A list that is handed in is neither changed nor kept, and what lies behind it is left alone.
func TestListsHandedIn(t *testing.T) {
	k := kind{6, 1}
	memory := []int{5, 2, 5, 3, 9, 4}
	s, m := some(t, k), newModel(k)
	m.counts = []int{0, 0, 1, 1, 0, 2}
	checkKeep(t, s, true, memory[:4]...)
	if !slices.Equal(memory, []int{5, 2, 5, 3, 9, 4}) {
		t.Error(memory)
	}
	checkAs(t, s, m)
	for i := range memory {
		memory[i] = 4
	}
	checkAs(t, s, m)
	memory = []int{4, 0, 1, 3}
	checkKeep(t, s, false, memory[:3]...)
	if !slices.Equal(memory, []int{4, 0, 1, 3}) {
		t.Error(memory)
	}
	memory[1] = 4
	checkAs(t, s, m)
}

// play does one of the calls, on the space and on the model, and holds the answers against each other.
func play(t *testing.T, s *Space, m *model, what, seed int) {
	t.Helper()
	i := numbers(1, seed, -1, m.n)[0]
	switch {
	case what < 3:
		want, err := m.take()
		checkTake(t, s, want, err)
		checkSector(t, s, want, true, m.counts[want])
	case what < 4:
		checkShare(t, s, i, m.share(i))
	case what < 7:
		checkDrop(t, s, i, m.drop(i))
	case what < 8:
		checkCommit(t, s, m.commit())
	default:
		low := m.fixed - seed%2
		l := numbers(seed%9, seed, low, max(low, m.n-seed/2%2))
		checkKeep(t, s, m.keep(l), l...)
	}
}

func TestLongRunsAreAsTheModel(t *testing.T) {
	for seed, k := range []kind{{1, 0}, {1, 1}, {2, 1}, {3, 0}, {8, 3}, {12, 0}, {64, 8}, {65, 64}, {65, 60}, {300, 290}, {300, 2}, {4096, 4080}} {
		s, m := some(t, k), newModel(k)
		for step, what := range numbers(400, seed, 0, 8) {
			play(t, s, m, what, 1000*seed+step)
			checkAs(t, s, m)
			if step%50 == 49 {
				s, m = s.Clone(), m.clone()
			}
		}
	}
}

// Long runs of taking, sharing, dropping and committing alone fill and empty a space again and again.
func TestLongRunsWithoutKeep(t *testing.T) {
	for seed, k := range []kind{{2, 0}, {5, 2}, {16, 2}, {64, 60}, {100, 80}} {
		s, m := some(t, k), newModel(k)
		full := 0
		for step, what := range numbers(2000, seed, 0, 7) {
			play(t, s, m, what, 1000*seed+step)
			checkAs(t, s, m)
			if s.Free() == 0 {
				full++
			}
		}
		if full == 0 {
			t.Errorf("%v was never full", k)
		}
	}
}

func TestTheSameCallsAnswerTheSame(t *testing.T) {
	k := kind{50, 5}
	one, other, m := some(t, k), some(t, k), newModel(k)
	for step, what := range numbers(200, 9, 0, 8) {
		play(t, one, m.clone(), what, step)
		play(t, other, m, what, step)
		if fmt.Sprint(one.Waiting()) != fmt.Sprint(other.Waiting()) {
			t.Fatal("waiting differ")
		}
		checkAs(t, one, m)
		checkAs(t, other, m)
	}
}
