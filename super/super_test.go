package super

import (
	"bytes"
	"math"
	"slices"
	"testing"

	"overdub/api"
)

const (
	mostInt  = math.MaxInt
	leastInt = math.MinInt
)

// block is all that a superblock's sector tells.
type block struct {
	s     api.Super
	cells int
}

// The numbers of a block, in the order in which they stand in the sector.
const (
	gen = iota
	life
	done
	root
	cells
	count
)

// names of the numbers, for what a test tells.
var names = [count]string{"Gen", "Life", "Done", "Root", "cells"}

// least and most are what each number may be.
var (
	least = [count]int{1, 1, 0, 0, 1}
	most  = [count]int{1<<31 - 1, 1<<31 - 1, 1<<31 - 1, api.MaxSectors - 1, 1024}
)

func blockOf(l [count]int) block {
	return block{api.Super{Gen: l[gen], Life: l[life], Done: l[done], Root: l[root]}, l[cells]}
}

func (k block) numbers() [count]int {
	return [count]int{k.s.Gen, k.s.Life, k.s.Done, k.s.Root, k.cells}
}

// with answers the block that has n for one of its numbers.
func (k block) with(at, n int) block {
	l := k.numbers()
	l[at] = n
	return blockOf(l)
}

// isOne tells whether a sector may tell the block.
func (k block) isOne() bool {
	for at, n := range k.numbers() {
		if n < least[at] || n > most[at] {
			return false
		}
	}
	return true
}

// ordinary are blocks with numbers that may be, the least and the greatest among them.
func ordinary() []block {
	l := []block{
		blockOf(least),
		blockOf(most),
		blockOf([count]int{1, 2, 3, 4, 5}),
		blockOf([count]int{258, 3, 4, 5, 6}),
		blockOf([count]int{0x01020304, 0x05060708, 0x090a0b0c, 0x0d0e, 0x0102}),
		blockOf([count]int{1 << 30, 1 << 24, 1 << 16, 1 << 8, 1 << 9}),
	}
	for at := range count {
		l = append(l, blockOf(least).with(at, most[at]), blockOf(most).with(at, least[at]))
		l = append(l, blockOf(most).with(at, least[at]+1), blockOf(least).with(at, most[at]-1))
	}
	return l
}

// many answers blocks with numbers that may be, differently for each seed.
func many(n, seed int) []block {
	l := make([]block, n)
	for i := range l {
		var row [count]int
		for at := range row {
			seed = (seed*1103515245 + 12345) % (1 << 31)
			// Short numbers as well as long ones.
			n := (seed >> 2) * 4099 % (most[at] - least[at] + 1)
			row[at] = least[at] + n>>(8*(seed>>20%4))
		}
		l[i] = blockOf(row)
	}
	return l
}

// strange are numbers for a place that may not stand there: one past the bounds, and far past them.
func strange(at int) []int {
	l := []int{
		least[at] - 1, most[at] + 1, least[at] - 2, most[at] + 2, 2*most[at] + 2,
		-64, -4096, -1 << 31, -1<<31 - 1, -1 << 32, -1<<32 + 1, leastInt, leastInt + 1,
		1 << 31, 1<<31 + 1, 1<<32 - 1, 1 << 32, 1<<32 + 1, 1<<32 + 1024, 1<<40 + 7, 1 << 62, mostInt, mostInt - 1,
	}
	return slices.DeleteFunc(l, func(n int) bool { return n >= least[at] && n <= most[at] })
}

// slow makes a sum digit by digit.
func slow(b []byte) uint32 {
	sum := uint32(math.MaxUint32)
	for i := range 8 * len(b) {
		digit := uint32(b[i/8]) >> (7 - i%8) & 1
		top := sum >> 31
		sum <<= 1
		if digit != top {
			sum ^= 0x04C11DB7
		}
	}
	return sum
}

// sumUp lays the sum of what is ahead as the last four bytes.
func sumUp(b []byte) []byte {
	n := slow(b[:124])
	b[124], b[125], b[126], b[127] = byte(n>>24), byte(n>>16), byte(n>>8), byte(n)
	return b
}

// put answers what four bytes hold of n, the lowest first.
func put(n int) []byte {
	if n < 0 {
		n = 0
	}
	b := make([]byte, 4)
	for i := range b {
		b[i] = byte(n % 256)
		n /= 256
	}
	return b
}

// model answers the sector of a block by the document's words.
func model(k block) []byte {
	b := make([]byte, 128)
	copy(b, "overdub1")
	for at, n := range k.numbers() {
		copy(b[8+4*at:], put(n))
	}
	return sumUp(b)
}

// held answers the block as four bytes hold its numbers.
func held(k block) block {
	l := k.numbers()
	for at, n := range l {
		l[at] = max(n, 0) % (1 << 32)
	}
	return blockOf(l)
}

func checkPack(t *testing.T, k block) {
	t.Helper()
	if b := Pack(k.s, k.cells); !bytes.Equal(b, model(k)) {
		t.Fatalf("Pack(%+v): %v, not %v", k, b, model(k))
	}
}

func checkUnpack(t *testing.T, b []byte, want block) {
	t.Helper()
	s, n, ok := Unpack(b)
	if got := (block{s, n}); !ok || got != want {
		t.Fatalf("Unpack: %+v, %v, not %+v", got, ok, want)
	}
}

func checkNoUnpack(t *testing.T, what string, b []byte) {
	t.Helper()
	s, n, ok := Unpack(b)
	if got := (block{s, n}); ok || got != (block{}) {
		t.Fatalf("Unpack with %s: %+v, %v", what, got, ok)
	}
}

func checkChoose(t *testing.T, a, b []byte, want block, wantSlot int) {
	t.Helper()
	s, n, slot, ok := Choose(a, b)
	if got := (block{s, n}); !ok || got != want || slot != wantSlot {
		t.Fatalf("Choose: %+v, slot %d, %v, not %+v, slot %d", got, slot, ok, want, wantSlot)
	}
}

func checkNoChoose(t *testing.T, what string, a, b []byte) {
	t.Helper()
	s, n, slot, ok := Choose(a, b)
	if got := (block{s, n}); ok || got != (block{}) || slot != 0 {
		t.Fatalf("Choose with %s: %+v, slot %d, %v", what, got, slot, ok)
	}
}

func checkNext(t *testing.T, n, want int) {
	t.Helper()
	// What else the superblock has doesn't count.
	for _, s := range []api.Super{{Gen: n}, {Gen: n, Life: 1, Done: 1, Root: 1}, {Gen: n, Life: -1, Done: mostInt, Root: leastInt}} {
		if got := Next(s); got != want {
			t.Errorf("Next(%+v): %d, not %d", s, got, want)
		}
	}
}

// spoilt is a sector that is no superblock.
type spoilt struct {
	what string
	b    []byte
}

// wrong are sectors that are none, made of the block's.
func wrong(k block) []spoilt {
	whole := model(k)
	l := []spoilt{
		{"nil", nil},
		{"nothing", []byte{}},
		{"a byte", whole[:1]},
		{"the mark alone", whole[:8]},
		{"the numbers alone", whole[:28]},
		{"no sum", whole[:124]},
		{"a byte too few", whole[:127]},
		{"its first byte left out", whole[1:]},
		{"a byte too many", append(bytes.Clone(whole), 0)},
		{"another sector behind it", append(bytes.Clone(whole), whole...)},
		{"a nought ahead", append([]byte{0}, whole...)},
		{"noughts", make([]byte, 128)},
		{"noughts with their sum", sumUp(make([]byte, 128))},
		{"all ones", bytes.Repeat([]byte{255}, 128)},
		{"all ones with their sum", sumUp(bytes.Repeat([]byte{255}, 128))},
		{"the mark and noughts", append([]byte("overdub1"), make([]byte, 120)...)},
	}
	for _, at := range []int{0, 7, 8, 27, 28, 123, 124, 127} {
		b := bytes.Clone(whole)
		b[at] ^= 1
		l = append(l, spoilt{"a digit turned", b})
	}
	return l
}

func TestTheDocumentsExample(t *testing.T) {
	checkNoChoose(t, "noughts", make([]byte, api.Sector), make([]byte, api.Sector))
}

func TestTheModelsSum(t *testing.T) {
	if n := slow([]byte("123456789")); n != 0x0376e6e7 {
		t.Fatalf("%#x", n)
	}
}

func TestPackByteByByte(t *testing.T) {
	b := Pack(api.Super{Gen: 0x01020304, Life: 0x15161718, Done: 0x292a2b2c, Root: 0x0d0e}, 0x0304)
	want := []byte{
		'o', 'v', 'e', 'r', 'd', 'u', 'b', '1',
		4, 3, 2, 1,
		0x18, 0x17, 0x16, 0x15,
		0x2c, 0x2b, 0x2a, 0x29,
		0x0e, 0x0d, 0, 0,
		4, 3, 0, 0,
	}
	if len(b) != api.Sector || !bytes.Equal(b[:28], want) {
		t.Fatal(b)
	}
	if !bytes.Equal(b[28:124], make([]byte, 96)) {
		t.Fatal("no noughts", b[28:124])
	}
	n := slow(b[:124])
	if sum := []byte{byte(n >> 24), byte(n >> 16), byte(n >> 8), byte(n)}; !bytes.Equal(b[124:], sum) {
		t.Fatal("the sum", b[124:], sum)
	}
}

func TestPackIsAsTheModel(t *testing.T) {
	for _, k := range append(ordinary(), many(3000, 1)...) {
		checkPack(t, k)
	}
}

func TestPackOfNumbersThatMayNotBe(t *testing.T) {
	checkPack(t, block{})
	for _, k := range ordinary() {
		for at := range count {
			for _, n := range strange(at) {
				checkPack(t, k.with(at, n))
			}
		}
	}
	for _, n := range strange(done) {
		checkPack(t, blockOf([count]int{n, n, n, n, n}))
	}
}

func TestUnpackOfPack(t *testing.T) {
	for _, k := range append(ordinary(), many(5000, 2)...) {
		checkUnpack(t, Pack(k.s, k.cells), k)
	}
}

func TestUnpackOfAllRootsAndCells(t *testing.T) {
	k := blockOf([count]int{3, 4, 5, 6, 7})
	for at, l := range map[int]int{root: api.MaxSectors, cells: 1025} {
		for n := least[at]; n < l; n++ {
			one := k.with(at, n)
			checkUnpack(t, Pack(one.s, one.cells), one)
		}
	}
}

func TestUnpackOfEachDigitOfTheNumbers(t *testing.T) {
	for _, at := range []int{gen, life, done} {
		for d := range 31 {
			k := blockOf([count]int{1, 1, 1, 1, 1}).with(at, 1<<d)
			checkUnpack(t, Pack(k.s, k.cells), k)
		}
	}
}

// checkLaid holds Unpack against what four bytes hold of the numbers.
func checkLaid(t *testing.T, what string, b []byte, k block) {
	t.Helper()
	if is := held(k); is.isOne() {
		checkUnpack(t, b, is)
	} else {
		checkNoUnpack(t, what, b)
	}
}

func TestUnpackOfNumbersThatMayNotBe(t *testing.T) {
	for _, k := range ordinary() {
		for at := range count {
			for _, n := range strange(at) {
				one := k.with(at, n)
				checkLaid(t, names[at], Pack(one.s, one.cells), one)
				checkLaid(t, names[at], model(one), one)
			}
		}
	}
}

func TestUnpackPastEachBound(t *testing.T) {
	// Below 0 four bytes hold a nought: what may be 0 has bounds above alone.
	for _, k := range ordinary() {
		for _, at := range []int{gen, life, cells} {
			for _, n := range []int{0, -1, -2, leastInt, most[at] + 1, 1<<32 - 1, 1 << 32, mostInt} {
				one := k.with(at, n)
				checkNoUnpack(t, names[at], Pack(one.s, one.cells))
			}
		}
		for _, at := range []int{done, root} {
			for _, n := range []int{most[at] + 1, most[at] + 2, 2*most[at] + 1, 1<<32 - 1, mostInt} {
				one := k.with(at, n)
				checkNoUnpack(t, names[at], Pack(one.s, one.cells))
			}
			for _, n := range []int{-1, -2, -4096, leastInt} {
				one := k.with(at, n)
				checkUnpack(t, Pack(one.s, one.cells), k.with(at, 0))
			}
		}
	}
}

func TestUnpackOfEachWrongByteOfTheNumbers(t *testing.T) {
	// The numbers of a sector are all that four bytes can tell.
	k := blockOf([count]int{1, 1, 0, 0, 1})
	for at := range count {
		for d := range 32 {
			one := k.with(at, 1<<d)
			checkLaid(t, names[at], model(one), one)
		}
	}
}

func TestUnpackWithADigitTurned(t *testing.T) {
	for _, k := range ordinary() {
		b := model(k)
		for digit := range 8 * api.Sector {
			b[digit/8] ^= 0x80 >> (digit % 8)
			checkNoUnpack(t, "a digit turned", b)
			b[digit/8] ^= 0x80 >> (digit % 8)
		}
		checkUnpack(t, b, k)
	}
}

// summedAgain answers the block's sector with a digit turned, and the sum that is right for it.
func summedAgain(k block, digit int) []byte {
	b := model(k)
	b[digit/8] ^= 0x80 >> (digit % 8)
	return sumUp(b)
}

func TestUnpackWithAnotherMark(t *testing.T) {
	for _, k := range ordinary() {
		for digit := range 8 * 8 {
			checkNoUnpack(t, "another mark", summedAgain(k, digit))
		}
		for _, mark := range []string{"overdub0", "overdub2", "overdub\x00", "OVERDUB1", "1budrevo", "overdubl"} {
			b := model(k)
			copy(b, mark)
			checkNoUnpack(t, mark, sumUp(b))
		}
	}
}

func TestUnpackWithoutNoughts(t *testing.T) {
	for _, k := range ordinary() {
		for digit := 8 * 28; digit < 8*124; digit++ {
			checkNoUnpack(t, "no nought", summedAgain(k, digit))
		}
	}
}

func TestUnpackWithADigitOfTheNumbersTurned(t *testing.T) {
	for _, k := range ordinary() {
		for digit := 8 * 8; digit < 8*28; digit++ {
			at, place := digit/32-2, digit/8%4*8+7-digit%8
			one := k.with(at, k.numbers()[at]^1<<place)
			checkLaid(t, names[at], summedAgain(k, digit), one)
		}
	}
}

func TestUnpackWithTheSumTheOtherWayRound(t *testing.T) {
	for _, k := range ordinary() {
		b := model(k)
		slices.Reverse(b[124:])
		checkNoUnpack(t, "the sum's lowest byte first", b)
		b = model(k)
		for i := 124; i < 128; i++ {
			b[i] ^= 255
		}
		checkNoUnpack(t, "the sum's digits turned", b)
	}
}

func TestUnpackOfOtherSectors(t *testing.T) {
	for _, k := range ordinary() {
		for _, w := range wrong(k) {
			checkNoUnpack(t, w.what, w.b)
		}
	}
}

func TestUnpackOfAllLengths(t *testing.T) {
	k := blockOf([count]int{258, 3, 4, 5, 6})
	long := append(model(k), make([]byte, 200)...)
	for n := range len(long) {
		if n == api.Sector {
			checkUnpack(t, long[:n], k)
		} else {
			checkNoUnpack(t, "another length", long[:n])
			checkNoUnpack(t, "another length", slices.Clip(long[:n]))
		}
	}
}

func TestUnpackOfAnyBytes(t *testing.T) {
	seed := 5
	for range 3000 {
		seed = (seed*1103515245 + 12345) % (1 << 31)
		b := make([]byte, 120+seed>>4%16)
		for i := range b {
			seed = (seed*1103515245 + 12345) % (1 << 31)
			b[i] = byte(seed >> 8)
		}
		checkNoUnpack(t, "any bytes", b)
	}
}

func TestChooseOfOne(t *testing.T) {
	for _, k := range ordinary() {
		one := model(k)
		for _, w := range wrong(blockOf(most)) {
			checkChoose(t, one, w.b, k, 0)
			checkChoose(t, w.b, one, k, 1)
		}
		for _, w := range wrong(k) {
			checkChoose(t, one, w.b, k, 0)
			checkChoose(t, w.b, one, k, 1)
		}
	}
}

func TestChooseOfBoth(t *testing.T) {
	// What else they have doesn't count: the elder ones are the greater here.
	for _, k := range []block{blockOf(least), blockOf([count]int{1, 9, 0, 7, 5}), blockOf(most)} {
		for _, r := range [][2]int{{1, 2}, {2, 3}, {1, 1<<31 - 1}, {255, 256}, {256, 257}, {1<<24 - 1, 1 << 24}, {1<<31 - 2, 1<<31 - 1}} {
			elder, newer := blockOf(most).with(gen, r[0]), k.with(gen, r[1])
			checkChoose(t, model(elder), model(newer), newer, 1)
			checkChoose(t, model(newer), model(elder), newer, 0)
		}
	}
}

func TestChooseOfOneGen(t *testing.T) {
	for _, n := range []int{1, 2, 7, 1 << 16, 1<<31 - 1} {
		little, great := blockOf(least).with(gen, n), blockOf(most).with(gen, n)
		checkChoose(t, model(little), model(great), little, 0)
		checkChoose(t, model(great), model(little), great, 0)
		checkChoose(t, model(great), model(great), great, 0)
		for at := life; at < count; at++ {
			other := little.with(at, least[at]+1)
			checkChoose(t, model(little), model(other), little, 0)
			checkChoose(t, model(other), model(little), other, 0)
		}
	}
}

func TestChooseOfNone(t *testing.T) {
	for _, k := range []block{blockOf(least), blockOf(most), blockOf([count]int{4, 3, 2, 1, 5})} {
		for _, a := range wrong(k) {
			for _, b := range wrong(blockOf([count]int{9, 8, 7, 6, 5})) {
				checkNoChoose(t, a.what+", "+b.what, a.b, b.b)
				checkNoChoose(t, b.what+", "+a.what, b.b, a.b)
			}
		}
	}
}

func TestChooseOfNumbersThatMayNotBe(t *testing.T) {
	k := blockOf([count]int{4, 3, 2, 1, 5})
	whole := model(k)
	for at := range count {
		for _, n := range strange(at) {
			other := k.with(gen, 9).with(at, n)
			if held(other).isOne() {
				continue
			}
			b := model(other)
			checkChoose(t, whole, b, k, 0)
			checkChoose(t, b, whole, k, 1)
			checkNoChoose(t, names[at], b, b)
		}
	}
}

func TestChooseIsAsTheModel(t *testing.T) {
	first, second := many(2000, 3), many(2000, 4)
	for i, a := range first {
		b := second[i]
		if b.s.Gen > a.s.Gen {
			checkChoose(t, model(a), model(b), b, 1)
		} else {
			checkChoose(t, model(a), model(b), a, 0)
		}
	}
}

func TestNext(t *testing.T) {
	for n := range 300 {
		checkNext(t, 2*n, 0)
		checkNext(t, 2*n+1, 1)
		checkNext(t, -n, 0)
	}
	checkNext(t, 0, 0)
	checkNext(t, 1, 1)
	for _, n := range []int{1 << 31, 1 << 32, 1 << 62} {
		checkNext(t, n-2, 0)
		checkNext(t, n-1, 1)
		checkNext(t, n, 0)
		checkNext(t, n+1, 1)
	}
	checkNext(t, mostInt, 1)
	checkNext(t, mostInt-1, 0)
	for _, n := range []int{-1, -2, -3, -1<<31 - 1, -1 << 31, -1<<32 - 1, leastInt, leastInt + 1} {
		checkNext(t, n, 0)
	}
}

// TestTheSlotsInTurn goes from superblock to superblock: the next one is laid over the elder one, and is in force then.
func TestTheSlotsInTurn(t *testing.T) {
	k := blockOf([count]int{1, 1, 0, 0, 4})
	slots := [2][]byte{Pack(k.s, k.cells), make([]byte, api.Sector)}
	slot := 0
	for i := range 50 {
		checkChoose(t, slots[0], slots[1], k, slot)
		slot = Next(k.s)
		k = k.with(gen, k.s.Gen+1).with(life, k.s.Life+1).with(root, 7*i).with(cells, 4+i)
		if i > 0 {
			elder, _, _ := Unpack(slots[slot])
			if elder.Gen != k.s.Gen-2 {
				t.Fatalf("%d is laid over %d", k.s.Gen, elder.Gen)
			}
		}
		slots[slot] = Pack(k.s, k.cells)
	}
}

func TestPackIsNewMemory(t *testing.T) {
	for _, k := range ordinary() {
		b, other := Pack(k.s, k.cells), Pack(k.s, k.cells)
		all := b[:cap(b)]
		for i := range all {
			all[i] ^= 255
		}
		if !bytes.Equal(other, model(k)) {
			t.Fatal("a sector has changed with another one")
		}
		checkPack(t, k)
		checkUnpack(t, other, k)
	}
}

// within answers b as a piece of a longer list of sevens, and that list.
func within(b []byte) (piece, all []byte) {
	all = bytes.Repeat([]byte{7}, len(b)+200)
	copy(all[3:], b)
	return all[3 : 3+len(b)], all
}

func TestWhatIsHandedInIsNotChanged(t *testing.T) {
	k := blockOf([count]int{258, 3, 4, 5, 6})
	rows := [][]byte{model(k), model(k.with(gen, 7))}
	for _, w := range wrong(k) {
		rows = append(rows, w.b)
	}
	for _, a := range rows {
		for _, b := range rows {
			first, all := within(a)
			second, others := within(b)
			wasAll, wereOthers := bytes.Clone(all), bytes.Clone(others)
			Unpack(first)
			Choose(first, second)
			if !bytes.Equal(all, wasAll) || !bytes.Equal(others, wereOthers) {
				t.Fatal("what was handed in has changed")
			}
		}
	}
}

func TestWhatLiesBehindIsNotRead(t *testing.T) {
	k := blockOf([count]int{258, 3, 4, 5, 6})
	for _, c := range []byte{0, 7, 255} {
		all := append(model(k), bytes.Repeat([]byte{c}, 200)...)
		checkUnpack(t, all[:128], k)
		checkChoose(t, all[:128], all[128:], k, 0)
		checkNoUnpack(t, "a byte too few", all[:127])
		checkNoUnpack(t, "a byte too many", all[:129])
		checkNoUnpack(t, "nothing", all[:0])
		checkNoChoose(t, "nothing", all[:0], all[:127])
	}
}

func TestWhatIsHandedInIsNotKept(t *testing.T) {
	k, other := blockOf([count]int{258, 3, 4, 5, 6}), blockOf([count]int{259, 8, 9, 10, 11})
	a, b := model(k), model(other)
	checkUnpack(t, a, k)
	checkChoose(t, a, b, other, 1)
	clear(b)
	checkChoose(t, a, b, k, 0)
	copy(a, model(other))
	checkUnpack(t, a, other)
	checkChoose(t, a, b, other, 0)
	clear(a)
	checkNoUnpack(t, "noughts", a)
	checkNoChoose(t, "noughts", a, b)
}

func TestChooseOfOneListTwice(t *testing.T) {
	for _, k := range ordinary() {
		b := model(k)
		checkChoose(t, b, b, k, 0)
	}
}

func TestTheSameCallsAnswerTheSame(t *testing.T) {
	for range 3 {
		for _, k := range ordinary() {
			checkPack(t, k)
			checkUnpack(t, model(k), k)
			checkChoose(t, model(k), nil, k, 0)
			checkChoose(t, nil, model(k), k, 1)
			checkNext(t, k.s.Gen, k.s.Gen%2)
		}
	}
}
