package disk

import (
	"bytes"
	"math"
	"slices"
	"sync"
	"testing"

	"overdub/api"
)

const (
	mostInt  = math.MaxInt
	leastInt = math.MinInt
)

// numbers answers count numbers from low to high, differently for each seed.
func numbers(count, seed, low, high int) []int {
	l := make([]int, count)
	for i := range l {
		seed = (seed*1103515245 + 12345) % (1 << 31)
		l[i] = low + (seed>>3)%(high-low+1)
	}
	return l
}

// mixed answers count bytes, differently for each seed.
func mixed(count, seed int) []byte {
	b := make([]byte, count)
	for i, v := range numbers(count, seed, 0, 255) {
		b[i] = byte(v)
	}
	return b
}

// full answers a sector of one byte.
func full(c byte) []byte {
	return bytes.Repeat([]byte{c}, 128)
}

// row answers sectors of one byte each.
func row(l ...byte) []byte {
	var b []byte
	for _, c := range l {
		b = append(b, full(c)...)
	}
	return b
}

// turned answers b with one digit turned, counted from the greatest of the first byte on.
func turned(b []byte, digit int) []byte {
	b = bytes.Clone(b)
	b[digit/8] ^= 1 << (7 - digit%8)
	return b
}

func some(t *testing.T, sectors int) *Disk {
	t.Helper()
	d, err := New(sectors)
	if err != api.OK || d == nil {
		t.Fatalf("New(%d): %v", sectors, err)
	}
	return d
}

func of(t *testing.T, image []byte) *Disk {
	t.Helper()
	d, err := From(image)
	if err != api.OK || d == nil {
		t.Fatalf("From of %d bytes: %v", len(image), err)
	}
	return d
}

func checkRead(t *testing.T, d *Disk, i int, want []byte) {
	t.Helper()
	if b, err := d.Read(i); err != api.OK || !bytes.Equal(b, want) {
		t.Fatalf("Read(%d): %v, %v, not %v", i, b, err, want)
	}
}

func checkNoRead(t *testing.T, d *Disk, i int, want api.Errno) {
	t.Helper()
	if b, err := d.Read(i); err != want || len(b) != 0 {
		t.Fatalf("Read(%d): %v, %v, not %v", i, b, err, want)
	}
}

func checkWrite(t *testing.T, d *Disk, i int, b []byte, want api.Errno) {
	t.Helper()
	if err := d.Write(i, b); err != want {
		t.Fatalf("Write(%d) of %d bytes: %v, not %v", i, len(b), err, want)
	}
}

func checkFlush(t *testing.T, d *Disk, want api.Errno) {
	t.Helper()
	if err := d.Flush(); err != want {
		t.Fatalf("Flush: %v, not %v", err, want)
	}
}

func checkWaiting(t *testing.T, d *Disk, want int) {
	t.Helper()
	if n := d.Waiting(); n != want {
		t.Fatalf("%d wait, not %d", n, want)
	}
}

func checkImage(t *testing.T, d *Disk, want []byte) {
	t.Helper()
	if b := d.Image(); !bytes.Equal(b, want) {
		t.Fatalf("the image is %v, not %v", b, want)
	}
}

func checkDead(t *testing.T, d *Disk, want bool) {
	t.Helper()
	if d.Dead() != want {
		t.Fatalf("dead: %v", !want)
	}
}

func checkCounts(t *testing.T, d *Disk, reads, writes, flushes int) {
	t.Helper()
	if r, w, f := d.Counts(); r != reads || w != writes || f != flushes {
		t.Fatalf("counts %d, %d, %d, not %d, %d, %d", r, w, f, reads, writes, flushes)
	}
}

// model is a disk by the document's words: each sector's bytes, and all that waits, one by one.
type model struct {
	kept    [][]byte
	waits   []waits
	ahead   bool
	more    int
	dead    bool
	r, w, f int
}

type waits struct {
	i int
	b []byte
}

func modelOf(image []byte) *model {
	m := &model{}
	for len(image) > 0 {
		m.kept = append(m.kept, bytes.Clone(image[:128]))
		image = image[128:]
	}
	return m
}

func (m *model) clone() *model {
	c := *m
	c.kept, c.waits = nil, nil
	for _, b := range m.kept {
		c.kept = append(c.kept, bytes.Clone(b))
	}
	for _, w := range m.waits {
		c.waits = append(c.waits, waits{w.i, bytes.Clone(w.b)})
	}
	return &c
}

func (m *model) isThere(i int) bool {
	return 0 <= i && i < len(m.kept)
}

func (m *model) seen(i int) []byte {
	b := m.kept[i]
	for _, w := range m.waits {
		if w.i == i {
			b = w.b
		}
	}
	return b
}

func (m *model) read(i int) ([]byte, api.Errno) {
	switch {
	case !m.isThere(i):
		return nil, api.ErrArg
	case m.dead:
		return nil, api.ErrDead
	}
	m.r++
	return m.seen(i), api.OK
}

// comes tells whether a write or a flush finds the disk dead.
func (m *model) comes() bool {
	if m.ahead && m.more == 0 {
		m.dead, m.ahead = true, false
	}
	return m.dead
}

func (m *model) write(i int, b []byte) api.Errno {
	switch {
	case !m.isThere(i), len(b) != 128:
		return api.ErrArg
	case m.comes():
		return api.ErrDead
	}
	m.more--
	m.waits = append(m.waits, waits{i, bytes.Clone(b)})
	m.w++
	return api.OK
}

func (m *model) flush() api.Errno {
	if m.comes() {
		return api.ErrDead
	}
	for _, w := range m.waits {
		m.kept[w.i] = w.b
	}
	m.waits = nil
	m.f++
	return api.OK
}

func (m *model) stop(at int) {
	m.ahead, m.more = true, at
	if at < 0 {
		m.more = 0
	}
}

func (m *model) crash(keep []bool) {
	for k, w := range m.waits {
		if k < len(keep) && keep[k] {
			m.kept[w.i] = w.b
		}
	}
	m.waits, m.dead, m.ahead = nil, false, false
}

func (m *model) poke(i, digit int) bool {
	if !m.isThere(i) || digit < 0 || digit > 1023 {
		return false
	}
	m.kept[i] = turned(m.kept[i], digit)
	for k, w := range m.waits {
		if w.i == i {
			m.waits[k].b = turned(w.b, digit)
		}
	}
	return true
}

// checkAs holds all that a disk shows against the model, on clones, so that the disk itself goes on.
func checkAs(t *testing.T, d *Disk, m *model) {
	t.Helper()
	checkImage(t, d, bytes.Join(m.kept, nil))
	checkWaiting(t, d, len(m.waits))
	checkDead(t, d, m.dead)
	checkCounts(t, d, m.r, m.w, m.f)
	if d.Len() != len(m.kept) {
		t.Fatalf("%d sectors, not %d", d.Len(), len(m.kept))
	}
	c := d.Clone()
	for i := range m.kept {
		if m.dead {
			checkNoRead(t, c, i, api.ErrDead)
		} else {
			checkRead(t, c, i, m.seen(i))
		}
	}
	c.Crash(slices.Repeat([]bool{true}, len(m.waits))...)
	for i := range m.kept {
		checkRead(t, c, i, m.seen(i))
	}
}

func TestNew(t *testing.T) {
	for _, n := range []int{1, 2, 3, 17, 4095, api.MaxSectors} {
		d := some(t, n)
		if d.Len() != n {
			t.Errorf("New(%d) has %d sectors", n, d.Len())
		}
		checkImage(t, d, make([]byte, n*128))
		for _, i := range []int{0, n / 2, n - 1} {
			checkRead(t, d, i, make([]byte, 128))
		}
		checkWaiting(t, d, 0)
		checkDead(t, d, false)
		checkCounts(t, d, 3, 0, 0)
	}
}

func TestNewOfWrongSizes(t *testing.T) {
	for _, n := range []int{0, -1, -2, -4096, api.MaxSectors + 1, 2 * api.MaxSectors, 1 << 32, 1<<32 + 1, 1 << 57, 1<<57 + 1, mostInt, leastInt, mostInt - 1, leastInt + 1} {
		if d, err := New(n); d != nil || err != api.ErrArg {
			t.Errorf("New(%d): %v", n, err)
		}
	}
}

func TestFrom(t *testing.T) {
	for _, n := range []int{1, 2, 5, 4095, api.MaxSectors} {
		image := mixed(n*128, n)
		d := of(t, image)
		if d.Len() != n {
			t.Errorf("%d sectors, not %d", d.Len(), n)
		}
		checkImage(t, d, image)
		for _, i := range []int{0, n / 2, n - 1} {
			checkRead(t, d, i, image[i*128:i*128+128])
		}
		checkWaiting(t, d, 0)
		checkDead(t, d, false)
		checkCounts(t, d, 3, 0, 0)
	}
}

func TestFromWrongLengths(t *testing.T) {
	most := api.MaxSectors * api.Sector
	for _, n := range []int{0, 1, 64, 127, 129, 255, 257, 1000, most - 127, most - 1, most + 1, most + 127, most + 128, 2 * most} {
		if d, err := From(make([]byte, n)); d != nil || err != api.ErrArg {
			t.Errorf("From of %d bytes: %v", n, err)
		}
	}
	if d, err := From(nil); d != nil || err != api.ErrArg {
		t.Errorf("From(nil): %v", err)
	}
}

func TestFromNeitherChangesNorKeepsTheImage(t *testing.T) {
	image := mixed(5*128, 1)
	was := bytes.Clone(image)
	d := of(t, image[128:256])
	checkWrite(t, d, 0, full(9), api.OK)
	checkFlush(t, d, api.OK)
	d.Poke(0, 3)
	if !bytes.Equal(image, was) {
		t.Error("the image was changed")
	}
	d = of(t, image[128:384])
	clear(image)
	checkImage(t, d, was[128:384])
	checkRead(t, d, 1, was[256:384])
}

// Behind each call what is read, what waits, and what is kept.
func TestWritesAndFlushes(t *testing.T) {
	d := of(t, row(1, 2))
	steps := []struct {
		flush     bool
		i         int
		c         byte
		now, kept []byte
		waiting   int
		writes    int
		flushes   int
	}{
		{false, 0, 3, []byte{3, 2}, []byte{1, 2}, 1, 1, 0},
		{true, 0, 0, []byte{3, 2}, []byte{3, 2}, 0, 1, 1},
		{true, 0, 0, []byte{3, 2}, []byte{3, 2}, 0, 1, 2},
		{false, 1, 4, []byte{3, 4}, []byte{3, 2}, 1, 2, 2},
		{false, 1, 5, []byte{3, 5}, []byte{3, 2}, 2, 3, 2},
		{false, 0, 6, []byte{6, 5}, []byte{3, 2}, 3, 4, 2},
		{false, 1, 7, []byte{6, 7}, []byte{3, 2}, 4, 5, 2},
		{true, 0, 0, []byte{6, 7}, []byte{6, 7}, 0, 5, 3},
		{false, 1, 7, []byte{6, 7}, []byte{6, 7}, 1, 6, 3},
		{false, 1, 8, []byte{6, 8}, []byte{6, 7}, 2, 7, 3},
		{true, 0, 0, []byte{6, 8}, []byte{6, 8}, 0, 7, 4},
		{false, 1, 9, []byte{6, 9}, []byte{6, 8}, 1, 8, 4},
		{true, 0, 0, []byte{6, 9}, []byte{6, 9}, 0, 8, 5},
	}
	for k, s := range steps {
		if s.flush {
			checkFlush(t, d, api.OK)
		} else {
			checkWrite(t, d, s.i, full(s.c), api.OK)
		}
		checkRead(t, d, 0, full(s.now[0]))
		checkRead(t, d, 1, full(s.now[1]))
		checkImage(t, d, row(s.kept...))
		checkWaiting(t, d, s.waiting)
		checkCounts(t, d, 2*k+2, s.writes, s.flushes)
		checkDead(t, d, false)
	}
}

func TestOneSector(t *testing.T) {
	d := some(t, 1)
	for k := range 5 {
		b := mixed(128, k)
		checkWrite(t, d, 0, b, api.OK)
		checkRead(t, d, 0, b)
		checkWaiting(t, d, k+1)
		checkImage(t, d, make([]byte, 128))
	}
	checkFlush(t, d, api.OK)
	checkImage(t, d, mixed(128, 4))
	checkWaiting(t, d, 0)
}

func TestAllSectorsOfTheGreatestDisk(t *testing.T) {
	d := some(t, api.MaxSectors)
	m := modelOf(make([]byte, api.MaxSectors*128))
	for i := range api.MaxSectors {
		b := mixed(128, i)
		checkWrite(t, d, i, b, api.OK)
		m.write(i, b)
	}
	checkAs(t, d, m)
	checkFlush(t, d, api.OK)
	m.flush()
	checkAs(t, d, m)
}

func TestWrongSectors(t *testing.T) {
	for _, n := range []int{1, 2, 3, api.MaxSectors} {
		d := of(t, mixed(n*128, n))
		for _, i := range []int{-1, -2, n, n + 1, 2 * n, -n, 1 << 32, 1<<57 + 1, mostInt, leastInt, mostInt - 1, leastInt + 1} {
			if i >= 0 && i < n {
				continue
			}
			checkNoRead(t, d, i, api.ErrArg)
			checkWrite(t, d, i, full(3), api.ErrArg)
			checkWrite(t, d, i, nil, api.ErrArg)
			if d.Poke(i, 0) || d.Poke(i, 1023) || d.Poke(i, -1) {
				t.Errorf("there is no sector %d of %d", i, n)
			}
		}
		checkImage(t, d, mixed(n*128, n))
		checkWaiting(t, d, 0)
		checkCounts(t, d, 0, 0, 0)
		checkWrite(t, d, n-1, full(7), api.OK)
		checkRead(t, d, n-1, full(7))
	}
}

func TestWritesOfWrongLengths(t *testing.T) {
	d := of(t, row(1, 2))
	checkWrite(t, d, 1, full(5), api.OK)
	for _, n := range []int{0, 1, 64, 127, 129, 255, 256, 1024} {
		for _, i := range []int{0, 1, 2, -1} {
			checkWrite(t, d, i, make([]byte, n), api.ErrArg)
		}
	}
	checkWrite(t, d, 0, nil, api.ErrArg)
	checkWrite(t, d, 0, make([]byte, 127, 128), api.ErrArg)
	checkWaiting(t, d, 1)
	checkCounts(t, d, 0, 1, 0)
	checkRead(t, d, 0, full(1))
	checkRead(t, d, 1, full(5))
	checkImage(t, d, row(1, 2))
}

func TestWriteNeitherChangesNorKeepsBytes(t *testing.T) {
	d := some(t, 2)
	memory := mixed(300, 8)
	was := bytes.Clone(memory)
	checkWrite(t, d, 1, memory[10:138], api.OK)
	d.Poke(1, 5)
	if !bytes.Equal(memory, was) {
		t.Error("what was handed in was changed")
	}
	clear(memory)
	want := turned(was[10:138], 5)
	checkRead(t, d, 1, want)
	checkFlush(t, d, api.OK)
	checkImage(t, d, append(make([]byte, 128), want...))
}

func TestAnswersAreNewMemory(t *testing.T) {
	d := of(t, row(1, 2))
	checkWrite(t, d, 1, full(3), api.OK)
	for i, c := range []byte{1, 3} {
		b, _ := d.Read(i)
		other, _ := d.Read(i)
		clear(b)
		if !bytes.Equal(other, full(c)) {
			t.Error("two answers share memory")
		}
		b = append(b, 99)
		_ = b
		checkRead(t, d, i, full(c))
	}
	image := d.Image()
	clear(image)
	_ = append(image, 99)
	checkImage(t, d, row(1, 2))
	image, other := d.Image(), d.Image()
	image[0] = 77
	if other[0] != 1 {
		t.Error("two images share memory")
	}
	checkFlush(t, d, api.OK)
	checkImage(t, d, row(1, 3))
	if !bytes.Equal(other, row(1, 2)) {
		t.Error("an image changes behind the call")
	}
	b, _ := d.Read(0)
	checkWrite(t, d, 0, full(8), api.OK)
	d.Poke(0, 0)
	checkFlush(t, d, api.OK)
	if !bytes.Equal(b, full(1)) {
		t.Error("what was read changes behind the call")
	}
}

// The document's example.
func TestCrashOfAWrite(t *testing.T) {
	d := some(t, 1)
	checkWrite(t, d, 0, full(1), api.OK)
	d.Crash()
	checkRead(t, d, 0, full(0))
	checkImage(t, d, full(0))
	checkWaiting(t, d, 0)
}

// keeps answers all lists of that length.
func keeps(length int) [][]bool {
	var all [][]bool
	for n := range 1 << length {
		l := make([]bool, length)
		for k := range l {
			l[k] = n>>k&1 == 1
		}
		all = append(all, l)
	}
	return all
}

// Each way of keeping, of lists from none to longer ones, of writes to one sector and to several.
func TestCrashKeepsWhatItIsTold(t *testing.T) {
	for _, sectors := range [][]int{{}, {0}, {2}, {0, 0}, {0, 1}, {1, 0}, {1, 1, 1}, {0, 1, 0}, {0, 1, 2, 1}, {2, 2, 0, 2, 0}, {1, 1, 1, 1, 1}} {
		d := of(t, row(101, 102, 103))
		m := modelOf(row(101, 102, 103))
		for k, i := range sectors {
			checkWrite(t, d, i, full(byte(k+1)), api.OK)
			m.write(i, full(byte(k+1)))
		}
		for length := range 8 {
			for _, keep := range keeps(length) {
				c, n := d.Clone(), m.clone()
				c.Crash(keep...)
				n.crash(keep)
				checkAs(t, c, n)
				// What a crash has forgotten does not come back.
				checkFlush(t, c, api.OK)
				n.flush()
				checkAs(t, c, n)
			}
		}
	}
}

func TestCrashOfASectorWrittenTwice(t *testing.T) {
	for _, c := range []struct {
		keep []bool
		want byte
	}{
		{nil, 9}, {[]bool{false}, 9}, {[]bool{true}, 1}, {[]bool{false, true}, 2}, {[]bool{true, true}, 2}, {[]bool{true, false}, 1},
		{[]bool{false, false, true}, 9}, {[]bool{true, false, true, true}, 1},
	} {
		d := of(t, row(9))
		checkWrite(t, d, 0, full(1), api.OK)
		checkWrite(t, d, 0, full(2), api.OK)
		d.Crash(c.keep...)
		checkRead(t, d, 0, full(c.want))
		checkImage(t, d, full(c.want))
		checkWaiting(t, d, 0)
	}
}

// What was flushed ahead of the writes that wait has no place in keep.
func TestCrashBehindAFlush(t *testing.T) {
	d := some(t, 2)
	checkWrite(t, d, 0, full(1), api.OK)
	checkWrite(t, d, 1, full(2), api.OK)
	checkFlush(t, d, api.OK)
	checkWrite(t, d, 1, full(3), api.OK)
	checkWrite(t, d, 0, full(4), api.OK)
	d.Crash(false, true)
	checkImage(t, d, row(4, 2))
	checkWrite(t, d, 0, full(5), api.OK)
	checkWaiting(t, d, 1)
	d.Crash(true)
	checkImage(t, d, row(5, 2))
	d.Crash(true, true, true)
	checkImage(t, d, row(5, 2))
}

func TestCrashNeitherChangesNorKeepsItsList(t *testing.T) {
	d := some(t, 1)
	for k := range 4 {
		checkWrite(t, d, 0, full(byte(k+1)), api.OK)
	}
	memory := []bool{true, false, true, true, true}
	was := slices.Clone(memory)
	d.Crash(memory[1:3]...)
	checkImage(t, d, full(2))
	if !slices.Equal(memory, was) {
		t.Error("keep was changed")
	}
}

func TestCrashBringsADeadDiskBack(t *testing.T) {
	d := some(t, 2)
	d.Stop(1)
	checkWrite(t, d, 0, full(1), api.OK)
	checkFlush(t, d, api.ErrDead)
	checkDead(t, d, true)
	d.Crash(true)
	checkDead(t, d, false)
	checkWaiting(t, d, 0)
	checkRead(t, d, 0, full(1))
	for range 5 {
		checkWrite(t, d, 1, full(2), api.OK)
		checkFlush(t, d, api.OK)
	}
	checkDead(t, d, false)
	checkImage(t, d, row(1, 2))
}

func TestCrashForgetsAStop(t *testing.T) {
	for at := range 4 {
		d := some(t, 1)
		d.Stop(at)
		d.Crash()
		for range 6 {
			checkWrite(t, d, 0, full(1), api.OK)
		}
		checkFlush(t, d, api.OK)
		checkDead(t, d, false)
	}
	// Behind a crash a Stop counts from there on.
	d := some(t, 1)
	d.Stop(0)
	checkFlush(t, d, api.ErrDead)
	d.Stop(4)
	d.Crash()
	d.Stop(2)
	checkWrite(t, d, 0, full(1), api.OK)
	checkWrite(t, d, 0, full(2), api.OK)
	checkWrite(t, d, 0, full(3), api.ErrDead)
}

func TestStopLetsJustSoManyWritesPass(t *testing.T) {
	for at := range 6 {
		for _, flush := range []bool{false, true} {
			d := some(t, 2)
			d.Stop(at)
			for k := range at {
				// Reads and flushes ahead of that go on, and do not count.
				checkFlush(t, d, api.OK)
				checkFlush(t, d, api.OK)
				checkRead(t, d, 0, full(byte(k)))
				checkWrite(t, d, 0, full(byte(k+1)), api.OK)
				checkDead(t, d, false)
			}
			checkRead(t, d, 0, full(byte(at)))
			checkDead(t, d, false)
			if flush {
				checkFlush(t, d, api.ErrDead)
			} else {
				checkWrite(t, d, 1, full(99), api.ErrDead)
			}
			checkDead(t, d, true)
			checkWaiting(t, d, min(at, 1))
			checkImage(t, d, row(byte(max(at-1, 0)), 0))
			checkCounts(t, d, at+1, at, 2*at)
		}
	}
}

func TestStopBelowNought(t *testing.T) {
	for _, at := range []int{0, -1, -2, -1000, leastInt + 1, leastInt} {
		d := some(t, 1)
		d.Stop(at)
		checkDead(t, d, false)
		checkRead(t, d, 0, full(0))
		checkWrite(t, d, 0, full(1), api.ErrDead)
		checkDead(t, d, true)
		checkWaiting(t, d, 0)
	}
}

func TestStopFarAhead(t *testing.T) {
	for _, at := range []int{1000, 1 << 32, mostInt, mostInt - 1} {
		d := some(t, 1)
		d.Stop(at)
		for range 1000 {
			checkWrite(t, d, 0, full(1), api.OK)
		}
		checkRead(t, d, 0, full(1))
		checkDead(t, d, false)
	}
}

func TestASecondStopForgetsTheFirst(t *testing.T) {
	for first := -1; first < 4; first++ {
		for second := range 4 {
			for between := range max(first, 0) + 1 {
				d := some(t, 1)
				d.Stop(first)
				for range between {
					checkWrite(t, d, 0, full(1), api.OK)
				}
				d.Stop(second)
				for range second {
					checkWrite(t, d, 0, full(2), api.OK)
				}
				checkDead(t, d, false)
				checkWrite(t, d, 0, full(3), api.ErrDead)
				checkDead(t, d, true)
				checkWaiting(t, d, between+second)
			}
		}
	}
}

func TestAStopDoesNotBringADeadDiskBack(t *testing.T) {
	d := some(t, 1)
	d.Stop(0)
	checkFlush(t, d, api.ErrDead)
	for _, at := range []int{5, 0, -1, mostInt} {
		d.Stop(at)
		checkDead(t, d, true)
		checkNoRead(t, d, 0, api.ErrDead)
		checkWrite(t, d, 0, full(1), api.ErrDead)
		checkFlush(t, d, api.ErrDead)
	}
	checkCounts(t, d, 0, 0, 0)
}

func TestWrongWritesDoNotCountForAStop(t *testing.T) {
	d := some(t, 1)
	d.Stop(1)
	for range 3 {
		checkWrite(t, d, 1, full(1), api.ErrArg)
		checkWrite(t, d, -1, full(1), api.ErrArg)
		checkWrite(t, d, 0, full(1)[1:], api.ErrArg)
	}
	checkWrite(t, d, 0, full(1), api.OK)
	for range 3 {
		checkWrite(t, d, 1, full(1), api.ErrArg)
		checkWrite(t, d, 0, nil, api.ErrArg)
		checkDead(t, d, false)
	}
	checkRead(t, d, 0, full(1))
	checkWrite(t, d, 0, full(2), api.ErrDead)
	checkDead(t, d, true)
	checkCounts(t, d, 1, 1, 0)
}

func TestADeadDisk(t *testing.T) {
	d := of(t, row(1, 2, 3))
	checkWrite(t, d, 1, full(4), api.OK)
	checkFlush(t, d, api.OK)
	checkWrite(t, d, 2, full(5), api.OK)
	checkRead(t, d, 2, full(5))
	d.Stop(0)
	checkWrite(t, d, 0, full(6), api.ErrDead)
	for range 2 {
		for i := range 3 {
			checkNoRead(t, d, i, api.ErrDead)
			checkWrite(t, d, i, full(7), api.ErrDead)
		}
		checkFlush(t, d, api.ErrDead)
		// A wrong argument is told first.
		checkNoRead(t, d, 3, api.ErrArg)
		checkNoRead(t, d, -1, api.ErrArg)
		checkWrite(t, d, 3, full(7), api.ErrArg)
		checkWrite(t, d, leastInt, full(7), api.ErrArg)
		checkWrite(t, d, 0, full(7)[1:], api.ErrArg)
		checkWrite(t, d, 0, nil, api.ErrArg)
		checkDead(t, d, true)
		if d.Len() != 3 {
			t.Error("Len of a dead disk")
		}
		checkWaiting(t, d, 1)
		checkImage(t, d, row(1, 4, 3))
		checkCounts(t, d, 1, 2, 1)
	}
	if !d.Poke(2, 7) || d.Poke(3, 7) || d.Poke(2, 1024) {
		t.Error("Poke of a dead disk")
	}
	checkImage(t, d, append(row(1, 4), turned(full(3), 7)...))
	c := d.Clone()
	checkDead(t, c, true)
	checkNoRead(t, c, 0, api.ErrDead)
	c.Crash(true)
	checkDead(t, c, false)
	checkImage(t, c, append(row(1, 4), turned(full(5), 7)...))
	checkDead(t, d, true)
	d.Crash()
	checkRead(t, d, 2, turned(full(3), 7))
	checkRead(t, d, 0, full(1))
}

// What the image tells is what a crash without keep leaves, and the crash has not come by that.
func TestImageIsWhatACrashLeaves(t *testing.T) {
	d := of(t, row(1, 2))
	checkWrite(t, d, 0, full(3), api.OK)
	d.Stop(1)
	image := d.Image()
	checkWaiting(t, d, 1)
	checkRead(t, d, 0, full(3))
	c := d.Clone()
	c.Crash()
	checkImage(t, c, image)
	for i := range 2 {
		checkRead(t, c, i, image[i*128:i*128+128])
	}
	checkWrite(t, d, 0, full(4), api.OK)
	checkFlush(t, d, api.ErrDead)
	checkImage(t, d, image)
	checkAs(t, of(t, image), modelOf(image))
}

func TestPoke(t *testing.T) {
	for _, digit := range []int{0, 1, 6, 7, 8, 9, 15, 16, 500, 511, 512, 1015, 1016, 1022, 1023} {
		image := mixed(3*128, digit)
		d := of(t, image)
		m := modelOf(image)
		for k, i := range []int{1, 0, 1, 1} {
			checkWrite(t, d, i, mixed(128, 10*digit+k), api.OK)
			m.write(i, mixed(128, 10*digit+k))
		}
		for _, i := range []int{1, 0, 2, 1} {
			if !d.Poke(i, digit) || !m.poke(i, digit) {
				t.Fatalf("Poke(%d, %d)", i, digit)
			}
			checkAs(t, d, m)
		}
		for _, keep := range keeps(4) {
			c, n := d.Clone(), m.clone()
			c.Poke(1, digit)
			n.poke(1, digit)
			c.Crash(keep...)
			n.crash(keep)
			checkAs(t, c, n)
		}
	}
}

// All digits, one by one: each turns just itself, and twice turned it is as it was.
func TestPokeTurnsEachDigitAlone(t *testing.T) {
	d := of(t, row(0, 0xa5, 0))
	checkWrite(t, d, 1, full(0x3c), api.OK)
	for digit := range 1024 {
		if !d.Poke(1, digit) {
			t.Fatalf("there is a digit %d", digit)
		}
		checkImage(t, d, append(append(row(0), turned(full(0xa5), digit)...), row(0)...))
		checkRead(t, d, 1, turned(full(0x3c), digit))
		d.Poke(1, digit)
		checkImage(t, d, row(0, 0xa5, 0))
		checkRead(t, d, 1, full(0x3c))
	}
	checkWaiting(t, d, 1)
	checkCounts(t, d, 2048, 1, 0)
}

func TestPokeOfTheFirstAndTheLastDigit(t *testing.T) {
	d := some(t, 2)
	d.Poke(0, 0)
	d.Poke(1, 1023)
	d.Poke(1, 9)
	b := d.Image()
	if b[0] != 0x80 || b[255] != 1 || b[129] != 0x40 {
		t.Errorf("%x, %x, %x", b[0], b[255], b[129])
	}
}

func TestPokeOfWrongDigits(t *testing.T) {
	d := of(t, row(1, 2, 3))
	checkWrite(t, d, 1, full(4), api.OK)
	for i := range 3 {
		for _, digit := range []int{-1, -2, -8, -1024, 1024, 1025, 1032, 2048, 1 << 32, mostInt, leastInt, leastInt + 1} {
			if d.Poke(i, digit) {
				t.Errorf("there is no digit %d", digit)
			}
		}
	}
	checkImage(t, d, row(1, 2, 3))
	checkRead(t, d, 1, full(4))
}

// A poke neither counts nor stops, nor lets anything wait.
func TestPokeIsNoWrite(t *testing.T) {
	d := some(t, 1)
	d.Stop(1)
	d.Poke(0, 0)
	d.Poke(0, 1)
	checkWaiting(t, d, 0)
	checkDead(t, d, false)
	checkWrite(t, d, 0, full(1), api.OK)
	checkWrite(t, d, 0, full(1), api.ErrDead)
	checkCounts(t, d, 0, 1, 0)
}

func TestCounts(t *testing.T) {
	d := some(t, 2)
	checkCounts(t, d, 0, 0, 0)
	for k := range 5 {
		checkWrite(t, d, 1, full(1), api.OK)
		checkCounts(t, d, 2*k, k+1, 3*k)
		checkRead(t, d, 0, full(0))
		checkRead(t, d, 1, full(1))
		checkCounts(t, d, 2*k+2, k+1, 3*k)
		for range 3 {
			checkFlush(t, d, api.OK)
		}
		checkCounts(t, d, 2*k+2, k+1, 3*k+3)
		checkNoRead(t, d, 2, api.ErrArg)
		checkWrite(t, d, 2, full(1), api.ErrArg)
		checkWrite(t, d, 0, nil, api.ErrArg)
		d.Image()
		d.Len()
		d.Waiting()
		d.Clone().Flush()
		checkCounts(t, d, 2*k+2, k+1, 3*k+3)
	}
	d.Crash(true)
	checkCounts(t, d, 10, 5, 15)
	d.Stop(0)
	checkFlush(t, d, api.ErrDead)
	checkWrite(t, d, 0, full(1), api.ErrDead)
	checkNoRead(t, d, 0, api.ErrDead)
	checkCounts(t, d, 10, 5, 15)
	d.Crash()
	checkRead(t, d, 1, full(1))
	checkCounts(t, d, 11, 5, 15)
}

func TestACloneHasTheCountsAndGoesOnFromThem(t *testing.T) {
	d := some(t, 1)
	checkWrite(t, d, 0, full(1), api.OK)
	checkWrite(t, d, 0, full(2), api.OK)
	checkRead(t, d, 0, full(2))
	checkFlush(t, d, api.OK)
	checkFlush(t, d, api.OK)
	checkFlush(t, d, api.OK)
	c := d.Clone()
	checkCounts(t, c, 1, 2, 3)
	checkRead(t, c, 0, full(2))
	checkWrite(t, c, 0, full(3), api.OK)
	checkFlush(t, c, api.OK)
	checkCounts(t, c, 2, 3, 4)
	checkCounts(t, d, 1, 2, 3)
	checkRead(t, d, 0, full(2))
	checkRead(t, d, 0, full(2))
	checkCounts(t, d, 3, 2, 3)
	checkCounts(t, c, 2, 3, 4)
}

func TestAClonesStopIsItsOwn(t *testing.T) {
	d := some(t, 1)
	d.Stop(2)
	checkWrite(t, d, 0, full(1), api.OK)
	c := d.Clone()
	free := d.Clone()
	free.Crash()
	checkWrite(t, c, 0, full(2), api.OK)
	checkWrite(t, c, 0, full(3), api.ErrDead)
	checkDead(t, c, true)
	checkDead(t, d, false)
	checkWrite(t, d, 0, full(4), api.OK)
	checkRead(t, d, 0, full(4))
	checkFlush(t, d, api.ErrDead)
	c.Crash()
	checkDead(t, d, true)
	checkDead(t, c, false)
	for range 4 {
		checkWrite(t, free, 0, full(5), api.OK)
	}
	checkFlush(t, free, api.OK)
	c.Stop(0)
	checkFlush(t, free, api.OK)
}

func TestNeitherKnowsOfTheOther(t *testing.T) {
	start := func() (*Disk, *model) {
		d, m := of(t, row(1, 2, 3)), modelOf(row(1, 2, 3))
		for k, i := range []int{0, 1, 0} {
			d.Write(i, full(byte(k+4)))
			m.write(i, full(byte(k+4)))
		}
		d.Stop(3)
		m.stop(3)
		return d, m
	}
	// Each of these is done to one of the two, and the other is as it was.
	deeds := []func(d *Disk, m *model){
		func(d *Disk, m *model) { d.Write(2, full(9)); m.write(2, full(9)) },
		func(d *Disk, m *model) { d.Write(0, full(9)); m.write(0, full(9)) },
		func(d *Disk, m *model) { d.Flush(); m.flush() },
		func(d *Disk, m *model) { d.Crash(); m.crash(nil) },
		func(d *Disk, m *model) { d.Crash(false, true, true); m.crash([]bool{false, true, true}) },
		func(d *Disk, m *model) { d.Poke(0, 5); m.poke(0, 5) },
		func(d *Disk, m *model) { d.Poke(2, 5); m.poke(2, 5) },
		func(d *Disk, m *model) { d.Stop(0); m.stop(0); d.Flush(); m.flush() },
		func(d *Disk, m *model) { d.Read(0); m.read(0) },
	}
	for _, first := range deeds {
		for _, second := range deeds {
			d, m := start()
			c, n := d.Clone(), m.clone()
			first(d, m)
			checkAs(t, c, n)
			checkAs(t, d, m)
			second(c, n)
			checkAs(t, c, n)
			checkAs(t, d, m)
			first(c, n)
			second(d, m)
			checkAs(t, c, n)
			checkAs(t, d, m)
		}
	}
}

// Writes behind a clone lie in memory of their own, however much of it there is behind what waits.
func TestCloneAndDiskWriteOnApart(t *testing.T) {
	for count := range 20 {
		d := some(t, 2)
		for range count {
			checkWrite(t, d, 0, full(1), api.OK)
		}
		c := d.Clone()
		checkWrite(t, d, 1, full(2), api.OK)
		checkWrite(t, c, 0, full(3), api.OK)
		checkRead(t, d, 1, full(2))
		checkRead(t, c, 0, full(3))
		checkRead(t, c, 1, full(0))
		checkFlush(t, d, api.OK)
		checkFlush(t, c, api.OK)
		checkImage(t, d, row(byte(min(count, 1)), 2))
		checkImage(t, c, row(3, 0))
	}
}

// play does one of the calls, on the disk and on the model, and holds the answers against each other.
func play(t *testing.T, d *Disk, m *model, what, seed int) {
	t.Helper()
	n := numbers(3, seed, -1, len(m.kept))
	switch {
	case what < 10:
		b := mixed(128, seed)
		if n[1] == 0 && n[2] == 0 {
			b = b[:127]
		}
		if got, want := d.Write(n[0], b), m.write(n[0], b); got != want {
			t.Fatalf("Write: %v, not %v", got, want)
		}
	case what < 14:
		got, err := d.Read(n[0])
		want, other := m.read(n[0])
		if err != other || !bytes.Equal(got, want) {
			t.Fatalf("Read: %v, not %v", err, other)
		}
	case what < 16:
		if got, want := d.Flush(), m.flush(); got != want {
			t.Fatalf("Flush: %v, not %v", got, want)
		}
	case what == 16:
		d.Stop(n[1])
		m.stop(n[1])
	case what == 17:
		keep := keeps(5)[seed%32]
		d.Crash(keep...)
		m.crash(keep)
	default:
		if got, want := d.Poke(n[0], seed%1030-3), m.poke(n[0], seed%1030-3); got != want {
			t.Fatalf("Poke: %v, not %v", got, want)
		}
	}
}

func TestLongRunsAreAsTheModel(t *testing.T) {
	for seed := range 60 {
		n := 1 + seed%7
		image := mixed(n*128, seed)
		d, m := of(t, image), modelOf(image)
		for k, what := range numbers(150, seed, 0, 19) {
			play(t, d, m, what, 1000*seed+k)
			checkAs(t, d, m)
			if k%40 == 39 {
				d, m = d.Clone(), m.clone()
			}
		}
	}
}

func TestTheSameCallsAnswerTheSame(t *testing.T) {
	image := mixed(4*128, 3)
	one, other := of(t, image), of(t, image)
	m := modelOf(image)
	for k, what := range numbers(200, 5, 0, 19) {
		play(t, one, m.clone(), what, k)
		play(t, other, m, what, k)
		checkAs(t, one, m)
		checkAs(t, other, m)
	}
}

// Many writes that wait, and reads between them: none of them goes through all that wait.
func TestManyWritesThatWait(t *testing.T) {
	d := some(t, 3)
	const count = 20000
	for k := range count {
		checkWrite(t, d, k%2, full(byte(k)), api.OK)
		checkRead(t, d, k%2, full(byte(k)))
		checkRead(t, d, 2, full(0))
	}
	checkWaiting(t, d, count)
	keep := make([]bool, count)
	keep[count-7] = true
	d.Crash(keep...)
	last := count - 7
	checkImage(t, d, row(0, byte(last), 0))
	checkCounts(t, d, 2*count, count, 0)
}

// Counts are whole though several read at once.
func TestReadsAtOnce(t *testing.T) {
	d := of(t, row(1, 2, 3, 4))
	checkWrite(t, d, 1, full(9), api.OK)
	want := []byte{1, 9, 3, 4}
	var all sync.WaitGroup
	for i := range 4 {
		all.Go(func() {
			for range 500 {
				if b, err := d.Read(i); err != api.OK || b[0] != want[i] {
					t.Errorf("Read(%d): %v", i, err)
				}
				d.Counts()
			}
		})
	}
	all.Wait()
	checkCounts(t, d, 2000, 1, 0)
}
