// Package bits: binary digits in a row, the greatest of a number first.
package bits

const (
	mostDigits = 62   // so that what is read is an int from 0 on
	mostOnes   = 1024 // ones of a row at most
)

// Writer puts digits behind one another.
type Writer struct {
	row   []byte // eight digits a byte; those from count on are noughts
	count int
}

// NewWriter answers a writer without digits.
func NewWriter() *Writer {
	return &Writer{}
}

// Put adds the n lowest digits of v; false, and nothing is done, where n is not from 0 to 62.
func (w *Writer) Put(v, n int) bool {
	if n < 0 || n > mostDigits {
		return false
	}
	for i := n - 1; i >= 0; i-- {
		w.add(byte(v>>i) & 1)
	}
	return true
}

// Ones adds n ones and a nought; false, and nothing is done, where n is not from 0 to 1024.
func (w *Writer) Ones(n int) bool {
	if n < 0 || n > mostOnes {
		return false
	}
	for range n {
		w.add(1)
	}
	w.add(0)
	return true
}

// Len answers how many digits there are.
func (w *Writer) Len() int {
	return w.count
}

// Bytes answers the digits, eight a byte; noughts fill up the last one.
func (w *Writer) Bytes() []byte {
	return copied(w.row)
}

func (w *Writer) add(digit byte) {
	if w.count%8 == 0 {
		w.row = append(w.row, 0)
	}
	w.row[w.count/8] |= digit << (7 - w.count%8)
	w.count++
}

// Reader takes digits from the front of a row. A copy of it goes its own way: row is never changed.
type Reader struct {
	row []byte
	at  int // how many digits were taken
}

// NewReader answers a reader of all the digits of b.
func NewReader(b []byte) *Reader {
	return &Reader{row: copied(b)}
}

// Get takes the next n digits as a number from 0 on; false, and nothing is taken, where n is not from 0 to 62 or fewer are left.
func (r *Reader) Get(n int) (int, bool) {
	if n < 0 || n > mostDigits || n > r.Left() {
		return 0, false
	}
	v := 0
	for range n {
		v = v<<1 | int(r.digit(r.at))
		r.at++
	}
	return v, true
}

// Ones takes the ones ahead of the next nought, and the nought, or just most ones where there are as many; false, and nothing is taken, where the digits end ahead of that or most is not from 0 to 1024.
func (r *Reader) Ones(most int) (int, bool) {
	if most < 0 || most > mostOnes {
		return 0, false
	}
	left := r.Left()
	count := 0
	for count < most && count < left && r.digit(r.at+count) == 1 {
		count++
	}
	if count == most {
		r.at += count
		return count, true
	}
	if count == left {
		return 0, false
	}
	r.at += count + 1
	return count, true
}

// Left answers how many digits are left.
func (r *Reader) Left() int {
	return 8*len(r.row) - r.at
}

// Rest answers whether all digits that are left are noughts.
func (r *Reader) Rest() bool {
	for at := r.at; at < 8*len(r.row); at++ {
		if r.digit(at) == 1 {
			return false
		}
	}
	return true
}

func (r *Reader) digit(at int) byte {
	return r.row[at/8] >> (7 - at%8) & 1
}

// Callers may change their bytes afterwards, so none are shared with them.
func copied(b []byte) []byte {
	c := make([]byte, len(b))
	copy(c, b)
	return c
}
