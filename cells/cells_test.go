package cells

import (
	"bytes"
	"math"
	"slices"
	"testing"

	"overdub/api"
)

const (
	mostInt  = math.MaxInt
	leastInt = math.MinInt
)

// The numbers of a cell.
const (
	life = iota
	num
	part
	parts
	count
)

// names of the numbers, for what a test tells.
var names = [count]string{"Life", "Num", "Part", "Parts"}

func cellOf(l [count]int, data []byte) api.Cell {
	return api.Cell{Life: l[life], Num: l[num], Part: l[part], Parts: l[parts], Data: data}
}

func numbersOf(c api.Cell) [count]int {
	return [count]int{c.Life, c.Num, c.Part, c.Parts}
}

// with answers the cell that has n for one of its numbers.
func with(c api.Cell, at, n int) api.Cell {
	l := numbersOf(c)
	l[at] = n
	return cellOf(l, c.Data)
}

// bounds are the least and the greatest that a number may be beside the cell's others.
func bounds(c api.Cell, at int) (least, most int) {
	switch at {
	case part:
		return 0, c.Parts - 1
	case parts:
		return c.Part + 1, 64
	}
	return 1, 1<<31 - 1
}

// mayStand tells by the document's words whether there is a sector of the cell.
func mayStand(c api.Cell) bool {
	if c.Parts < 1 || c.Parts > 64 || len(c.Data) > 112 {
		return false
	}
	for at, n := range numbersOf(c) {
		if least, most := bounds(c, at); n < least || n > most {
			return false
		}
	}
	return true
}

// alike tells whether two cells are the same, nil and an empty list being one.
func alike(a, b api.Cell) bool {
	return numbersOf(a) == numbersOf(b) && bytes.Equal(a.Data, b.Data)
}

// copyOf answers a cell that shares no memory.
func copyOf(c api.Cell) api.Cell {
	c.Data = bytes.Clone(c.Data)
	return c
}

func copiesOf(l []api.Cell) []api.Cell {
	l = slices.Clone(l)
	for i, c := range l {
		l[i] = copyOf(c)
	}
	return l
}

// next goes on in a row of numbers that differs for each seed.
func next(seed *int) int {
	*seed = (*seed*1103515245 + 12345) % (1 << 31)
	return *seed >> 4
}

// many answers n bytes, with anything in them.
func many(n, seed int) []byte {
	b := make([]byte, n)
	for i := range b {
		b[i] = byte(next(&seed) >> 3)
	}
	return b
}

// rows are data of n bytes: noughts, ones, marks, and anything.
func rows(n int) [][]byte {
	return [][]byte{
		make([]byte, n),
		bytes.Repeat([]byte{255}, n),
		bytes.Repeat([]byte{0xCE}, n),
		bytes.Repeat([]byte{7, 8, 9}, n)[:n],
		many(n, n+1),
	}
}

// ordinary are cells that may be, with the least and the greatest of each number and of the data's length among them.
func ordinary() []api.Cell {
	var l []api.Cell
	for _, r := range [][count]int{
		{1, 1, 0, 1},
		{1<<31 - 1, 1<<31 - 1, 63, 64},
		{1<<31 - 1, 1, 0, 64},
		{1, 1<<31 - 1, 62, 63},
		{258, 3, 1, 4},
		{0x01020304, 0x05060708, 9, 10},
		{1 << 24, 1 << 16, 31, 33},
		{1 << 8, 1 << 30, 0, 2},
	} {
		for _, n := range []int{0, 1, 2, 55, 111, 112} {
			l = append(l, cellOf(r, rows(n)[n%5]), cellOf(r, many(n, n)))
		}
	}
	return l
}

// few are those of the ordinary cells that slow tests take.
func few() []api.Cell {
	return []api.Cell{
		{Life: 1, Num: 1, Parts: 1},
		{Life: 258, Num: 3, Part: 1, Parts: 4, Data: []byte("abc")},
		{Life: 1<<31 - 1, Num: 1<<31 - 1, Part: 63, Parts: 64, Data: many(112, 1)},
		{Life: 0x01020304, Num: 0x05060708, Part: 9, Parts: 10, Data: make([]byte, 60)},
	}
}

// anyCell answers a cell that may be.
func anyCell(seed *int) api.Cell {
	// Short numbers as well as long ones.
	c := api.Cell{Life: 1 + next(seed)*17%(1<<31-1)>>(next(seed)%31), Num: 1 + next(seed)*17%(1<<31-1)>>(next(seed)%31)}
	c.Parts = 1 + next(seed)%64
	c.Part = next(seed) % c.Parts
	c.Data = many(next(seed)%113, next(seed))
	return c
}

// strange are numbers that may not stand there, beside the cell's others: one past the bounds, and far past them.
func strange(c api.Cell, at int) []int {
	least, most := bounds(c, at)
	l := []int{
		least - 1, most + 1, least - 2, most + 2, 2*most + 2,
		-64, -255, -256, -4096, -1 << 31, -1<<31 - 1, -1 << 32, -1<<32 + 1, leastInt, leastInt + 1,
		// What a byte, or four of them, would cut to a number that may be.
		256, 256 + least, 256 + most, 1 << 31, 1<<31 + 1, 1<<32 - 1, 1 << 32, 1<<32 + least, 1<<32 + most, 1<<40 + 7, 1 << 62, mostInt, mostInt - 1,
	}
	return slices.DeleteFunc(l, func(n int) bool { return n >= least && n <= most })
}

// slow makes a sum digit by digit.
func slow(b []byte) uint32 {
	sum := uint32(math.MaxUint32)
	for i := range 8 * len(b) {
		digit := uint32(b[i/8]) >> (7 - i%8) & 1
		top := sum >> 31
		sum <<= 1
		if digit != top {
			sum ^= 0x04C11DB7
		}
	}
	return sum
}

// sumUp lays the sum of what is ahead as the last four bytes.
func sumUp(b []byte) []byte {
	n := slow(b[:124])
	b[124], b[125], b[126], b[127] = byte(n>>24), byte(n>>16), byte(n>>8), byte(n)
	return b
}

// put lays what width bytes hold of n, the lowest first.
func put(b []byte, width, n int) {
	n = max(n, 0)
	for i := range width {
		b[i] = byte(n % 256)
		n /= 256
	}
}

// model answers the sector of a cell by the document's words, whatever its numbers are; of its data there is what has room.
func model(c api.Cell) []byte {
	b := make([]byte, 128)
	put(b, 4, c.Life)
	put(b[4:], 4, c.Num)
	put(b[8:], 1, c.Part)
	put(b[9:], 1, c.Parts)
	put(b[10:], 1, len(c.Data))
	b[11] = 0xCE
	copy(b[12:124], c.Data)
	return sumUp(b)
}

func checkPack(t *testing.T, c api.Cell) {
	t.Helper()
	if b, ok := Pack(c); !ok || !bytes.Equal(b, model(c)) {
		t.Fatalf("Pack(%v): %v, %v, not %v", c, b, ok, model(c))
	}
}

func checkNoPack(t *testing.T, c api.Cell) {
	t.Helper()
	if b, ok := Pack(c); ok || len(b) != 0 {
		t.Fatalf("Pack(%v): %v, %v", c, b, ok)
	}
}

func checkUnpack(t *testing.T, b []byte, want api.Cell) {
	t.Helper()
	if c, ok := Unpack(b); !ok || !alike(c, want) {
		t.Fatalf("Unpack: %v, %v, not %v", c, ok, want)
	}
}

func checkNoUnpack(t *testing.T, what string, b []byte) {
	t.Helper()
	if c, ok := Unpack(b); ok || !alike(c, api.Cell{}) {
		t.Fatalf("Unpack with %s: %v, %v", what, c, ok)
	}
}

func split(t *testing.T, life, num int, data []byte) []api.Cell {
	t.Helper()
	l, err := Split(life, num, data)
	if err != api.OK {
		t.Fatalf("Split of %d bytes: %d", len(data), err)
	}
	return l
}

// checkSplit holds Split against the document's words.
func checkSplit(t *testing.T, life, num int, data []byte) {
	t.Helper()
	want := (len(data) + 111) / 112
	if len(data) == 0 {
		want = 1
	}
	l := split(t, life, num, data)
	if len(l) != want {
		t.Fatalf("Split of %d bytes: %d cells, not %d", len(data), len(l), want)
	}
	for i, c := range l {
		one := api.Cell{Life: life, Num: num, Part: i, Parts: want, Data: data[112*i : min(112*i+112, len(data))]}
		if !alike(c, one) {
			t.Fatalf("Split of %d bytes: cell %d is %v, not %v", len(data), i, c, one)
		}
	}
}

func checkNoSplit(t *testing.T, life, num int, data []byte) {
	t.Helper()
	if l, err := Split(life, num, data); err != api.ErrLimit || len(l) != 0 {
		t.Fatalf("Split(%d, %d, %d bytes): %d cells, %d", life, num, len(data), len(l), err)
	}
}

func checkJoin(t *testing.T, life, num int, l []api.Cell, want []byte) {
	t.Helper()
	if b, ok := Join(life, num, l...); !ok || !bytes.Equal(b, want) {
		t.Fatalf("Join(%d, %d, %v): %v, %v, not %v", life, num, l, b, ok, want)
	}
}

func checkNoJoin(t *testing.T, what string, life, num int, l []api.Cell) {
	t.Helper()
	if b, ok := Join(life, num, l...); ok || len(b) != 0 {
		t.Fatalf("Join with %s (%d, %d, %v): %v, %v", what, life, num, l, b, ok)
	}
}

// joined answers by the document's words what Join answers.
func joined(life, num int, l []api.Cell) ([]byte, bool) {
	var own []api.Cell
	for _, c := range l {
		if c.Life == life && c.Num == num {
			own = append(own, c)
		}
	}
	if len(own) == 0 {
		return nil, false
	}
	for _, c := range own {
		if c.Parts != own[0].Parts || c.Parts < 1 || c.Parts > 64 {
			return nil, false
		}
	}
	var data []byte
	for n := range own[0].Parts {
		i := slices.IndexFunc(own, func(c api.Cell) bool { return c.Part == n })
		if i < 0 {
			return nil, false
		}
		data = append(data, own[i].Data...)
	}
	return data, true
}

func checkAsModel(t *testing.T, life, num int, l []api.Cell) bool {
	t.Helper()
	want, ok := joined(life, num, l)
	if ok {
		checkJoin(t, life, num, l, want)
	} else {
		checkNoJoin(t, "cells as the model's", life, num, l)
	}
	return ok
}

// shuffled answers the cells in another order.
func shuffled(l []api.Cell, seed int) []api.Cell {
	l = slices.Clone(l)
	for i := range l {
		j := i + next(&seed)%(len(l)-i)
		l[i], l[j] = l[j], l[i]
	}
	return l
}

// lengths are those that the document names for data: at each multiple of a cell's, and on either side.
func lengths() []int {
	l := []int{0, 1, 2, 55}
	for n := 112; n <= 64*112; n += 112 {
		l = append(l, n-1, n, n+1)
	}
	return l[:len(l)-1]
}

// extremes are a life or a number as nobody hands it in.
func extremes() []int {
	return []int{0, 1, -1, 2, 1<<31 - 1, 1 << 31, 1<<32 - 1, 1 << 32, 1<<32 + 1, -1 << 31, -1 << 32, mostInt, mostInt - 1, leastInt, leastInt + 1}
}

func TestTheDocumentsExample(t *testing.T) {
	if l, err := Split(1, 1, make([]byte, 113)); err != api.OK || len(l) != 2 {
		t.Fatal(l, err)
	}
}

func TestTheModelsSum(t *testing.T) {
	if n := slow([]byte("123456789")); n != 0x0376e6e7 {
		t.Fatalf("%#x", n)
	}
}

func TestPackByteByByte(t *testing.T) {
	b, ok := Pack(api.Cell{Life: 0x01020304, Num: 0x15161718, Part: 9, Parts: 10, Data: []byte("abcde")})
	want := []byte{4, 3, 2, 1, 0x18, 0x17, 0x16, 0x15, 9, 10, 5, 0xCE, 'a', 'b', 'c', 'd', 'e'}
	if !ok || len(b) != api.Sector || !bytes.Equal(b[:17], want) {
		t.Fatal(b, ok)
	}
	if !bytes.Equal(b[17:124], make([]byte, 107)) {
		t.Fatal("no noughts", b[17:124])
	}
	n := slow(b[:124])
	if sum := []byte{byte(n >> 24), byte(n >> 16), byte(n >> 8), byte(n)}; !bytes.Equal(b[124:], sum) {
		t.Fatal("the sum", b[124:], sum)
	}
}

func TestPackOfTheLeastAndTheGreatest(t *testing.T) {
	b, ok := Pack(api.Cell{Life: 1, Num: 1, Parts: 1})
	if want := sumUp(append([]byte{1, 0, 0, 0, 1, 0, 0, 0, 0, 1, 0, 0xCE}, make([]byte, 116)...)); !ok || !bytes.Equal(b, want) {
		t.Fatal(b, ok)
	}
	data := many(112, 5)
	b, ok = Pack(api.Cell{Life: 1<<31 - 1, Num: 1<<31 - 1, Part: 63, Parts: 64, Data: data})
	want := append([]byte{255, 255, 255, 127, 255, 255, 255, 127, 63, 64, 112, 0xCE}, data...)
	if !ok || !bytes.Equal(b, sumUp(append(want, 0, 0, 0, 0))) {
		t.Fatal(b, ok)
	}
}

func TestPackIsAsTheModel(t *testing.T) {
	for _, c := range ordinary() {
		checkPack(t, c)
	}
	seed := 1
	for range 3000 {
		checkPack(t, anyCell(&seed))
	}
}

func TestPackOfAllLengths(t *testing.T) {
	for n := range 113 {
		for _, data := range rows(n) {
			checkPack(t, api.Cell{Life: 5, Num: 6, Part: 2, Parts: 3, Data: data})
		}
	}
}

func TestPackOfAllParts(t *testing.T) {
	for n := -3; n < 70; n++ {
		for k := -3; k < 70; k++ {
			c := api.Cell{Life: 5, Num: 6, Part: k, Parts: n, Data: []byte("x")}
			if n >= 1 && n <= 64 && k >= 0 && k < n {
				checkPack(t, c)
				checkUnpack(t, model(c), c)
			} else {
				checkNoPack(t, c)
				checkNoUnpack(t, "parts that may not be", model(cut(c)))
			}
		}
	}
}

// cut answers a cell whose numbers below 0 are such that a sector can tell them.
func cut(c api.Cell) api.Cell {
	for at, n := range numbersOf(c) {
		if n < 0 {
			c = with(c, at, 255+n)
		}
	}
	return c
}

func TestPackOfNumbersThatMayNotBe(t *testing.T) {
	checkNoPack(t, api.Cell{})
	for _, c := range ordinary() {
		for at := range count {
			for _, n := range strange(c, at) {
				checkNoPack(t, with(c, at, n))
			}
		}
	}
	for _, n := range extremes() {
		checkNoPack(t, cellOf([count]int{n, n, n, n}, nil))
	}
}

func TestPackOfTooMuchData(t *testing.T) {
	for _, c := range ordinary() {
		for _, n := range []int{113, 114, 124, 127, 128, 224, 255, 256, 257, 256 + 112, 1 << 16} {
			c.Data = many(n, n)
			checkNoPack(t, c)
		}
	}
}

func TestUnpackOfPack(t *testing.T) {
	seed := 2
	l := ordinary()
	for range 3000 {
		l = append(l, anyCell(&seed))
	}
	for _, c := range l {
		b, ok := Pack(c)
		if !ok {
			t.Fatalf("%v", c)
		}
		checkUnpack(t, b, c)
		checkUnpack(t, model(c), c)
	}
}

func TestUnpackOfEachDigitOfTheNumbers(t *testing.T) {
	for _, at := range []int{life, num} {
		for d := range 31 {
			c := with(few()[1], at, 1<<d)
			checkPack(t, c)
			checkUnpack(t, model(c), c)
		}
	}
}

func TestUnpackWithADigitTurned(t *testing.T) {
	for _, c := range few() {
		b := model(c)
		for digit := range 8 * api.Sector {
			b[digit/8] ^= 0x80 >> (digit % 8)
			checkNoUnpack(t, "a digit turned", b)
			b[digit/8] ^= 0x80 >> (digit % 8)
		}
		checkUnpack(t, b, c)
	}
}

// summedWith answers the cell's sector with a byte of its own at a place, and the sum that is right for it.
func summedWith(c api.Cell, at int, n byte) []byte {
	b := model(c)
	b[at] = n
	return sumUp(b)
}

func TestUnpackWithAnotherMark(t *testing.T) {
	for _, c := range few() {
		for n := range 256 {
			if n != 0xCE {
				checkNoUnpack(t, "another mark", summedWith(c, 11, byte(n)))
			}
		}
	}
}

func TestUnpackWithoutNoughts(t *testing.T) {
	for _, c := range few() {
		for at := 12 + len(c.Data); at < 124; at++ {
			for _, n := range []byte{1, 0x80, 0xCE, 255} {
				checkNoUnpack(t, "no nought", summedWith(c, at, n))
			}
		}
	}
}

func TestUnpackWithAnotherLength(t *testing.T) {
	for _, c := range []api.Cell{
		{Life: 1, Num: 1, Parts: 1},
		{Life: 258, Num: 3, Part: 1, Parts: 4, Data: []byte("abc")},
		{Life: 258, Num: 3, Part: 1, Parts: 4, Data: []byte{1, 2, 0, 0}},
		{Life: 7, Num: 8, Part: 3, Parts: 4, Data: bytes.Repeat([]byte{5}, 112)},
	} {
		all := append(bytes.Clone(c.Data), make([]byte, 112-len(c.Data))...)
		filled := len(bytes.TrimRight(c.Data, "\x00"))
		for n := range 256 {
			b := summedWith(c, 10, byte(n))
			if n > 112 || n < filled {
				checkNoUnpack(t, "a wrong length", b)
				continue
			}
			// Noughts can be data as well.
			c.Data = all[:n]
			checkUnpack(t, b, c)
		}
	}
}

func TestUnpackOfNumbersThatMayNotBe(t *testing.T) {
	for _, c := range few() {
		for _, n := range []int{0, 1 << 31, 1<<31 + 1, 1<<32 - 1} {
			checkNoUnpack(t, names[life], model(with(c, life, n)))
			checkNoUnpack(t, names[num], model(with(c, num, n)))
		}
		for n := range 256 {
			for _, at := range []int{part, parts} {
				one := with(c, at, n)
				if mayStand(one) {
					checkUnpack(t, model(one), one)
				} else {
					checkNoUnpack(t, names[at], model(one))
				}
			}
		}
	}
	for n := range 256 {
		checkNoUnpack(t, "no parts", model(api.Cell{Life: 1, Num: 1, Part: n}))
		checkNoUnpack(t, "a part of as many", model(api.Cell{Life: 1, Num: 1, Part: n, Parts: n}))
	}
}

func TestUnpackWithTheSumTheOtherWayRound(t *testing.T) {
	for _, c := range few() {
		b := model(c)
		slices.Reverse(b[124:])
		checkNoUnpack(t, "the sum's lowest byte first", b)
		b = model(c)
		for i := 124; i < 128; i++ {
			b[i] ^= 255
		}
		checkNoUnpack(t, "the sum's digits turned", b)
	}
}

// spoilt is a sector that is no cell.
type spoilt struct {
	what string
	b    []byte
}

// wrong are sectors that are none, made of the cell's.
func wrong(c api.Cell) []spoilt {
	whole := model(c)
	return []spoilt{
		{"nil", nil},
		{"nothing", []byte{}},
		{"a byte", whole[:1]},
		{"the numbers alone", whole[:12]},
		{"no noughts", whole[:12+len(c.Data)]},
		{"no sum", whole[:124]},
		{"a byte too few", whole[:127]},
		{"its first byte left out", whole[1:]},
		{"a byte too many", append(bytes.Clone(whole), 0)},
		{"another sector behind it", append(bytes.Clone(whole), whole...)},
		{"a nought ahead", append([]byte{0}, whole...)},
		{"noughts", make([]byte, 128)},
		{"noughts with their sum", sumUp(make([]byte, 128))},
		{"all ones", bytes.Repeat([]byte{255}, 128)},
		{"all ones with their sum", sumUp(bytes.Repeat([]byte{255}, 128))},
		{"marks with their sum", sumUp(bytes.Repeat([]byte{0xCE}, 128))},
		{"a mark alone", summedWith(api.Cell{}, 11, 0xCE)},
		{"a superblock's mark", sumUp(append([]byte("overdub1"), make([]byte, 120)...))},
	}
}

func TestUnpackOfOtherSectors(t *testing.T) {
	for _, c := range ordinary() {
		for _, w := range wrong(c) {
			checkNoUnpack(t, w.what, w.b)
		}
	}
}

func TestUnpackOfAllLengths(t *testing.T) {
	for _, c := range few() {
		long := append(model(c), make([]byte, 200)...)
		for n := range len(long) {
			if n == api.Sector {
				checkUnpack(t, long[:n], c)
			} else {
				checkNoUnpack(t, "another length", long[:n])
				checkNoUnpack(t, "another length", slices.Clip(long[:n]))
			}
		}
	}
}

func TestUnpackOfAnyBytes(t *testing.T) {
	seed := 5
	for range 3000 {
		checkNoUnpack(t, "any bytes", many(120+next(&seed)%16, next(&seed)))
	}
}

// TestUnpackIsTheOneWhosePackItIs takes any head with the sum that is right for it.
func TestUnpackIsTheOneWhosePackItIs(t *testing.T) {
	seed, found := 6, 0
	for range 20000 {
		c := anyCell(&seed)
		b := model(c)
		b[next(&seed)%124] = byte(next(&seed))
		b[8+next(&seed)%3] = byte(next(&seed) % 70)
		sumUp(b)
		c, ok := Unpack(b)
		if !ok {
			continue
		}
		found++
		if again, ok := Pack(c); !ok || !bytes.Equal(again, b) || !bytes.Equal(model(c), b) {
			t.Fatalf("%v: %v, %v, not %v", c, again, ok, b)
		}
	}
	if found < 1000 {
		t.Fatal(found)
	}
}

func TestSplitOfAllNamedLengths(t *testing.T) {
	for _, n := range lengths() {
		for _, data := range rows(n) {
			checkSplit(t, 5, 6, data)
		}
	}
	checkSplit(t, 5, 6, nil)
}

func TestSplitOfAllLengths(t *testing.T) {
	data := many(64*112, 3)
	for n := 0; n <= len(data); n += 5 {
		checkSplit(t, 7, 8, data[:n])
	}
}

func TestSplitOfTooMuch(t *testing.T) {
	data := many(1<<18, 4)
	checkSplit(t, 1, 1, data[:64*112])
	for _, n := range []int{64*112 + 1, 64*112 + 2, 65*112 - 1, 65 * 112, 65*112 + 1, 256 * 112, 1 << 16, 1 << 18} {
		checkNoSplit(t, 1, 1, data[:n])
		checkNoSplit(t, leastInt, mostInt, data[:n])
	}
}

func TestSplitOfAnyLifeAndNum(t *testing.T) {
	for _, a := range extremes() {
		for _, b := range extremes() {
			checkSplit(t, a, b, nil)
			checkSplit(t, a, b, many(113, 1))
		}
	}
}

func TestSplitCellsCanBePacked(t *testing.T) {
	for _, n := range lengths() {
		for _, c := range split(t, 1<<31-1, 1, many(n, n)) {
			checkPack(t, c)
			checkUnpack(t, model(c), c)
		}
	}
}

func TestJoinOfSplit(t *testing.T) {
	for _, n := range lengths() {
		for _, data := range rows(n) {
			l := split(t, 5, 6, data)
			checkJoin(t, 5, 6, l, data)
			slices.Reverse(l)
			checkJoin(t, 5, 6, l, data)
			for seed := range 3 {
				checkJoin(t, 5, 6, shuffled(l, seed), data)
			}
		}
	}
}

func TestJoinInAllOrders(t *testing.T) {
	data := many(400, 1)
	l := split(t, 5, 6, data)
	var go4 func(done, left []api.Cell)
	orders := 0
	go4 = func(done, left []api.Cell) {
		if len(left) == 0 {
			checkJoin(t, 5, 6, done, data)
			orders++
		}
		for i, c := range left {
			go4(append(slices.Clone(done), c), slices.Delete(slices.Clone(left), i, i+1))
		}
	}
	go4(nil, l)
	if len(l) != 4 || orders != 24 {
		t.Fatal(len(l), orders)
	}
}

func TestJoinOfAnyLifeAndNum(t *testing.T) {
	data := many(300, 2)
	for _, a := range extremes() {
		for _, b := range extremes() {
			l := split(t, a, b, data)
			checkJoin(t, a, b, l, data)
			for _, n := range []int{1, -1, 1 << 32, -1 << 32, 1 << 31} {
				checkNoJoin(t, "another life", a+n, b, l)
				checkNoJoin(t, "another number", a, b+n, l)
			}
			if a != b {
				checkNoJoin(t, "life and number in each other's place", b, a, l)
			}
		}
	}
}

func TestJoinBetweenOthers(t *testing.T) {
	data, other := many(500, 1), many(300, 2)
	l := split(t, 5, 6, data)
	others := slices.Concat(
		split(t, 5, 7, other), split(t, 5, 5, nil), split(t, 4, 6, other), split(t, 6, 6, data),
		split(t, 6, 5, data), split(t, 5, -6, other), split(t, -5, 6, data), split(t, 1<<32+5, 6, data), split(t, 5, 1<<32+6, data),
		[]api.Cell{{}, {Life: 5}, {Num: 6}, {Life: 5, Parts: -1}, {Num: 6, Parts: leastInt, Part: mostInt}, {Life: 4, Num: 6, Parts: 65}},
	)
	checkJoin(t, 5, 6, append(slices.Clone(others), l...), data)
	checkJoin(t, 5, 6, append(slices.Clone(l), others...), data)
	all := append(slices.Clone(l), others...)
	for seed := range 200 {
		checkJoin(t, 5, 6, shuffled(all, seed), data)
	}
	checkNoJoin(t, "others alone", 5, 6, others)
	checkJoin(t, 5, 7, all, other)
	checkJoin(t, 5, 5, all, nil)
}

func TestJoinOfCellsThatAreThereTwice(t *testing.T) {
	data, other := many(500, 1), many(500, 2)
	l, m := split(t, 5, 6, data), split(t, 5, 6, other)
	checkJoin(t, 5, 6, slices.Concat(l, l, l), data)
	checkJoin(t, 5, 6, slices.Concat(l, m), data)
	checkJoin(t, 5, 6, slices.Concat(m, l), other)
	for i := range l {
		want := slices.Concat(data[:112*i], other[112*i:min(112*i+112, 500)], data[min(112*i+112, 500):])
		checkJoin(t, 5, 6, slices.Concat([]api.Cell{m[i]}, l), want)
		checkJoin(t, 5, 6, slices.Concat(l, []api.Cell{m[i]}), data)
		// Between the others: what counts is which one is first.
		checkJoin(t, 5, 6, slices.Concat(l[:i], m[i:i+1], l[i:]), want)
		checkJoin(t, 5, 6, slices.Concat(l[:i+1], m[i:i+1], l[i+1:]), data)
	}
	// The first one counts though it is empty.
	empty := api.Cell{Life: 5, Num: 6, Part: 1, Parts: 5}
	checkJoin(t, 5, 6, slices.Concat([]api.Cell{empty}, l), slices.Concat(data[:112], data[224:]))
	checkJoin(t, 5, 6, slices.Concat(l, []api.Cell{empty}), data)
}

func TestJoinWithoutCells(t *testing.T) {
	if b, ok := Join(1, 1); ok || len(b) != 0 {
		t.Fatal(b, ok)
	}
	checkNoJoin(t, "nil", 0, 0, nil)
	checkNoJoin(t, "nothing", 0, 0, []api.Cell{})
	for _, a := range extremes() {
		for _, b := range extremes() {
			checkNoJoin(t, "nothing", a, b, nil)
			checkNoJoin(t, "another's", a, b, split(t, 77, 78, many(200, 1)))
			checkNoJoin(t, "zero cells", a, b, make([]api.Cell, 3))
		}
	}
}

func TestJoinWithOneMissing(t *testing.T) {
	for _, n := range lengths() {
		l := split(t, 5, 6, many(n, n))
		for i := range l {
			left := slices.Delete(slices.Clone(l), i, i+1)
			checkNoJoin(t, "one missing", 5, 6, left)
			// As many as there should be, but one of them twice.
			if len(l) > 1 {
				checkNoJoin(t, "one missing, another one twice", 5, 6, append(left, left[0]))
			}
		}
	}
}

func TestJoinWithUnlikeParts(t *testing.T) {
	data := many(500, 1)
	l := split(t, 5, 6, data)
	for at := range l {
		for _, n := range []int{1, 4, 6, 64, 65, 0, -1, -5, 5 + 256, 5 + 1<<32, mostInt, leastInt} {
			m := slices.Clone(l)
			m[at].Parts = n
			checkNoJoin(t, "unlike parts", 5, 6, m)
			checkNoJoin(t, "unlike parts in one that is there twice", 5, 6, append(slices.Clone(l), m[at]))
			checkNoJoin(t, "unlike parts in one that is there twice", 5, 6, append([]api.Cell{m[at]}, l...))
			one := m[at]
			for _, k := range []int{-1, 5, 64, leastInt, mostInt} {
				one.Part = k
				checkNoJoin(t, "unlike parts in one past the bounds", 5, 6, append(slices.Clone(l), one))
				checkNoJoin(t, "unlike parts in one past the bounds", 5, 6, append([]api.Cell{one}, l...))
			}
		}
	}
}

func TestJoinOfPartsThatMayNotBe(t *testing.T) {
	for _, n := range []int{0, -1, -2, -64, 65, 66, 255, 256, 257, 1 << 31, 1 << 32, 1<<32 + 1, mostInt, mostInt - 1, leastInt, leastInt + 1} {
		for _, k := range []int{0, -1, 1, n, n - 1, n + 1} {
			c := api.Cell{Life: 5, Num: 6, Part: k, Parts: n, Data: []byte("x")}
			checkNoJoin(t, "parts that may not be", 5, 6, []api.Cell{c})
			checkNoJoin(t, "parts that may not be", 5, 6, []api.Cell{c, c})
		}
	}
	// All parts are there, but there are too many.
	for _, n := range []int{64, 65, 66, 256, 300} {
		l := make([]api.Cell, n)
		for i := range l {
			l[i] = api.Cell{Life: 5, Num: 6, Part: i, Parts: n, Data: []byte{byte(i)}}
		}
		if ok := checkAsModel(t, 5, 6, l); ok != (n == 64) {
			t.Fatal(n, ok)
		}
	}
}

func TestJoinOfAPartPastItsBounds(t *testing.T) {
	data := many(500, 1)
	l := split(t, 5, 6, data)
	for _, k := range []int{-1, -2, -5, 5, 6, 63, 64, 65, 255, 256, 257, 1 << 31, 1 << 32, 1<<32 + 1, mostInt, mostInt - 4, leastInt, leastInt + 1} {
		c := api.Cell{Life: 5, Num: 6, Part: k, Parts: 5, Data: []byte("no part")}
		checkJoin(t, 5, 6, append([]api.Cell{c}, l...), data)
		checkJoin(t, 5, 6, append(slices.Clone(l), c), data)
		checkJoin(t, 5, 6, slices.Concat(l[:2], []api.Cell{c, c}, l[2:]), data)
		checkNoJoin(t, "no part of its own", 5, 6, []api.Cell{c})
		for i := range l {
			m := slices.Clone(l)
			m[i].Part = k
			checkNoJoin(t, "a part past the bounds in another's place", 5, 6, m)
		}
	}
}

func TestJoinOfDataOfAnyLength(t *testing.T) {
	// A list's cells need not be such as Split makes.
	for _, n := range []int{0, 1, 112, 113, 300, 10000} {
		for _, k := range []int{0, 1, 112, 113, 10000} {
			a, b := many(n, 1), many(k, 2)
			l := []api.Cell{{Life: 5, Num: 6, Parts: 2, Data: a}, {Life: 5, Num: 6, Part: 1, Parts: 2, Data: b}}
			checkJoin(t, 5, 6, l, slices.Concat(a, b))
			slices.Reverse(l)
			checkJoin(t, 5, 6, l, slices.Concat(a, b))
		}
	}
}

func TestJoinIsAsTheModel(t *testing.T) {
	seed, good := 9, 0
	for range 20000 {
		l := make([]api.Cell, next(&seed)%12)
		for i := range l {
			l[i] = api.Cell{
				Life:  1 + next(&seed)%8/7,
				Num:   1 + next(&seed)%8/7,
				Part:  next(&seed)%5 - 1,
				Parts: 3 + next(&seed)%40/39,
				Data:  many(next(&seed)%4, next(&seed)),
			}
		}
		if checkAsModel(t, 1, 1, l) {
			good++
		}
	}
	if good < 2000 || good > 18000 {
		t.Fatal(good)
	}
}

// TestThroughSectors goes all the way: split, packed, unpacked, joined.
func TestThroughSectors(t *testing.T) {
	for _, n := range lengths() {
		data := many(n, n)
		var sectors [][]byte
		for _, c := range split(t, 9, 10, data) {
			b, ok := Pack(c)
			if !ok {
				t.Fatal(c)
			}
			sectors = append(sectors, b)
		}
		var l []api.Cell
		for _, b := range sectors {
			c, ok := Unpack(b)
			if !ok {
				t.Fatal(b)
			}
			l = append(l, c)
		}
		checkJoin(t, 9, 10, shuffled(l, n), data)
	}
}

// spoil turns all that a list's memory holds, behind its length, too.
func spoil(b []byte) {
	all := b[:cap(b)]
	for i := range all {
		all[i] ^= 255
	}
}

func TestPackIsNewMemory(t *testing.T) {
	for _, c := range ordinary() {
		was := copyOf(c)
		b, _ := Pack(c)
		other, _ := Pack(c)
		spoil(b)
		if !bytes.Equal(other, model(was)) || !alike(c, was) {
			t.Fatal("something has changed with a sector")
		}
		checkPack(t, c)
		checkUnpack(t, other, was)
	}
}

func TestUnpackIsNewMemory(t *testing.T) {
	for _, c := range ordinary() {
		b := model(c)
		one, _ := Unpack(b)
		other, _ := Unpack(b)
		spoil(one.Data)
		if !bytes.Equal(b, model(c)) || !alike(other, c) {
			t.Fatal("something has changed with a cell's data")
		}
		clear(b)
		if !alike(other, c) {
			t.Fatal("a cell has changed with its sector")
		}
	}
}

func TestSplitIsNewMemory(t *testing.T) {
	for _, n := range lengths() {
		data := many(n, n)
		was := bytes.Clone(data)
		l, other := split(t, 5, 6, data), split(t, 5, 6, data)
		want := copiesOf(l)
		for i := range l {
			spoil(l[i].Data)
			for k := range l {
				if k > i && !alike(l[k], want[k]) {
					t.Fatal("a cell's data have changed with another one's", n, i, k)
				}
			}
		}
		clear(l[:cap(l)])
		if !bytes.Equal(data, was) {
			t.Fatal("the data have changed with the cells")
		}
		clear(data)
		checkJoin(t, 5, 6, other, was)
	}
}

func TestJoinIsNewMemory(t *testing.T) {
	for _, n := range lengths() {
		data := many(n, n)
		l := split(t, 5, 6, data)
		was := copiesOf(l)
		b, _ := Join(5, 6, l...)
		other, _ := Join(5, 6, l...)
		spoil(b)
		if !bytes.Equal(other, data) || !slices.EqualFunc(l, was, alike) {
			t.Fatal("something has changed with the joined data")
		}
		for _, c := range l {
			clear(c.Data)
		}
		if !bytes.Equal(other, data) {
			t.Fatal("the joined data have changed with the cells")
		}
	}
}

// within answers b as a piece of a longer list of sevens, and that list.
func within(b []byte) (piece, all []byte) {
	all = bytes.Repeat([]byte{7}, len(b)+200)
	copy(all[3:], b)
	return all[3 : 3+len(b)], all
}

func TestBytesHandedInAreNotChanged(t *testing.T) {
	var l [][]byte
	for _, c := range few() {
		l = append(l, model(c), c.Data)
		for _, w := range wrong(c) {
			l = append(l, w.b)
		}
	}
	for _, n := range lengths() {
		l = append(l, many(n, n))
	}
	for _, b := range l {
		piece, all := within(b)
		was := bytes.Clone(all)
		Pack(api.Cell{Life: 1, Num: 1, Parts: 1, Data: piece})
		Pack(api.Cell{Data: piece})
		Unpack(piece)
		Split(1, 1, piece)
		Join(1, 1, api.Cell{Life: 1, Num: 1, Parts: 1, Data: piece})
		Join(1, 1, api.Cell{Life: 1, Num: 1, Parts: 2, Data: piece}, api.Cell{Life: 1, Num: 1, Part: 1, Parts: 2, Data: piece})
		if !bytes.Equal(all, was) {
			t.Fatal("what was handed in has changed", len(b))
		}
	}
}

func TestCellsHandedInAreNotChanged(t *testing.T) {
	data := many(500, 1)
	all := slices.Concat(split(t, 5, 6, data), split(t, 5, 7, data), []api.Cell{{}, {Life: 5, Num: 6, Part: 77, Parts: 5}})
	slices.Reverse(all)
	was := copiesOf(all)
	for n := range len(all) + 1 {
		for _, at := range [][2]int{{5, 6}, {5, 7}, {0, 0}, {9, 9}} {
			Join(at[0], at[1], all[:n]...)
			if !slices.EqualFunc(all, was, alike) {
				t.Fatal("a list handed in has changed", n)
			}
		}
	}
}

func TestWhatLiesBehindIsNotRead(t *testing.T) {
	c := few()[1]
	for _, n := range []byte{0, 7, 0xCE, 255} {
		all := append(model(c), bytes.Repeat([]byte{n}, 200)...)
		checkUnpack(t, all[:128], c)
		checkNoUnpack(t, "a byte too few", all[:127])
		checkNoUnpack(t, "a byte too many", all[:129])
		checkNoUnpack(t, "nothing", all[:0])
		data := append([]byte("abc"), bytes.Repeat([]byte{n}, 200)...)
		c.Data = data[:3]
		checkPack(t, c)
		checkSplit(t, 1, 1, data[:3])
		checkSplit(t, 1, 1, data[:112])
		checkSplit(t, 1, 1, data[:0])
		checkJoin(t, 258, 3, []api.Cell{with(with(c, part, 0), parts, 2), with(c, parts, 2)}, []byte("abcabc"))
	}
	// A missing cell lies behind the list's length.
	l := split(t, 5, 6, many(300, 1))
	checkNoJoin(t, "one behind the length", 5, 6, l[:2])
	checkNoJoin(t, "all behind the length", 5, 6, l[:0])
	checkJoin(t, 5, 6, l, many(300, 1))
}

func TestWhatIsHandedInIsNotKept(t *testing.T) {
	c := few()[1]
	c.Data = []byte("abc")
	b, _ := Pack(c)
	copy(c.Data, "xyz")
	checkPack(t, c)
	checkUnpack(t, b, with(few()[1], life, 258))
	copy(b, model(c))
	checkUnpack(t, b, c)
	data := many(300, 1)
	l := split(t, 5, 6, data)
	clear(data)
	checkJoin(t, 5, 6, l, many(300, 1))
	checkSplit(t, 5, 6, data)
	clear(l)
	checkNoJoin(t, "cleared cells", 5, 6, l)
}

func TestOneListInAllCells(t *testing.T) {
	data := []byte("abc")
	l := make([]api.Cell, 64)
	for i := range l {
		l[i] = api.Cell{Life: 5, Num: 6, Part: i, Parts: 64, Data: data}
	}
	checkJoin(t, 5, 6, l, bytes.Repeat(data, 64))
}

func TestTheSameCallsAnswerTheSame(t *testing.T) {
	data := many(500, 1)
	for range 3 {
		for _, c := range few() {
			checkPack(t, c)
			checkNoPack(t, with(c, parts, 0))
			checkUnpack(t, model(c), c)
			checkNoUnpack(t, "nothing", nil)
		}
		checkSplit(t, 5, 6, data)
		checkNoSplit(t, 5, 6, make([]byte, 64*112+1))
		checkJoin(t, 5, 6, split(t, 5, 6, data), data)
		checkNoJoin(t, "nothing", 5, 6, nil)
	}
}
