package bits

import (
	"math"
	"slices"
	"strconv"
	"strings"
	"testing"

	"varve/api"
)

// The tests hold bits against rows of the digits 0 and 1: what the chapter says of bits is said of such rows.

// digits is the chapter's bits of a number of a width; false, if it has none.
func digits(n, width int) (string, bool) {
	if width < 0 || width > 32 || n < 0 || n >= 1<<width {
		return "", false
	}
	if width == 0 {
		return "", true
	}
	s := strconv.FormatInt(int64(n), 2)
	return strings.Repeat("0", width-len(s)) + s, true
}

// gamma is the chapter's gamma bits of a number; false, if it has none.
func gamma(n int) (string, bool) {
	if n < 1 || n > 1<<32-1 {
		return "", false
	}
	s := strconv.FormatInt(int64(n), 2)
	return strings.Repeat("0", len(s)-1) + s, true
}

// rowOf is the bits of a text.
func rowOf(s string) string {
	row := ""
	for i := range len(s) {
		d, _ := digits(int(s[i]), 8)
		row += d
	}
	return row
}

// textOf is the bytes of a row, with noughts behind it up to a whole byte.
func textOf(row string) string {
	row += strings.Repeat("0", (8-len(row)%8)%8)
	var s []byte
	for ; row != ""; row = row[8:] {
		b, _ := strconv.ParseUint(row[:8], 2, 8)
		s = append(s, byte(b))
	}
	return string(s)
}

// numberOf is the number that has the bits of a row.
func numberOf(row string) int {
	if row == "" {
		return 0
	}
	n, _ := strconv.ParseUint(row, 2, 64)
	return int(n)
}

// wantGet is what Get tells where a row is left: the number, how many bits it had, or the error.
func wantGet(row string, width int) (n, size int, e api.Errno) {
	if width < 0 || width > 32 {
		return 0, 0, api.ErrArg
	}
	if len(row) < width {
		return 0, 0, api.ErrShort
	}
	return numberOf(row[:width]), width, api.OK
}

// wantGamma is what Gamma tells where a row is left.
func wantGamma(row string) (n, size int, e api.Errno) {
	ahead := strings.Index(row, "1")
	if ahead < 0 {
		return 0, 0, api.ErrShort
	}
	if ahead > 31 {
		return 0, 0, api.ErrBits
	}
	if len(row) < 2*ahead+1 {
		return 0, 0, api.ErrShort
	}
	return numberOf(row[:2*ahead+1]), 2*ahead + 1, api.OK
}

// wantDone is whether nothing but fewer than 8 noughts is left.
func wantDone(row string) bool { return len(row) < 8 && !strings.Contains(row, "1") }

// numbers tells numbers beside each power of 2, others with digits of both kinds, and those at the ends of int.
func numbers() []int {
	l := []int{math.MinInt, math.MinInt + 1, -1 << 32, -2, -1, math.MaxInt - 1, math.MaxInt, 0x55555555, 0xaaaaaaaa, 0xdeadbeef, 1<<33 + 5}
	for k := range 63 {
		l = append(l, 1<<k-1, 1<<k, 1<<k+1)
	}
	slices.Sort(l)
	return slices.Compact(l)
}

// widths tells all widths that there are, and others beside them.
func widths() []int {
	l := []int{math.MinInt, -64, -32, -1, 33, 34, 40, 63, 64, 65, 256, 1 << 32, math.MaxInt}
	for w := range 33 {
		l = append(l, w)
	}
	return l
}

// holds tells whether a writer has just the bits of a row.
func holds(t *testing.T, w *Writer, row string) {
	t.Helper()
	for range 2 {
		if w.Len() != len(row) || w.Text() != textOf(row) {
			t.Fatalf("a writer of %s: Len %d, Text %x, want %d, %x", row, w.Len(), w.Text(), len(row), textOf(row))
		}
	}
}

// begun makes a writer that has the bits of a row, put one by one.
func begun(t *testing.T, row string) *Writer {
	t.Helper()
	w := &Writer{}
	for _, d := range row {
		if e := w.Put(int(d-'0'), 1); e != api.OK {
			t.Fatalf("Put(%c, 1) = %d", d, int(e))
		}
	}
	holds(t, w, row)
	return w
}

// beginnings tells rows that end at each place of a byte.
func beginnings() []string {
	return []string{"", "1", "01", "101", "0000", "11111", "011010", "1111111", "00000000", "110011001"}
}

// P4.1
func TestTheZeroWriterHasNoBits(t *testing.T) {
	var w Writer
	holds(t, &w, "")
	holds(t, &Writer{}, "")
}

// P4.1
func TestPutOfOneNumber(t *testing.T) {
	for _, ahead := range beginnings() {
		for _, width := range widths() {
			for _, n := range numbers() {
				w := begun(t, ahead)
				row, ok := digits(n, width)
				want := api.OK
				if !ok {
					want = api.ErrArg
				}
				if e := w.Put(n, width); e != want {
					t.Fatalf("Put(%d, %d) = %d, want %d", n, width, int(e), int(want))
				}
				holds(t, w, ahead+row)
			}
		}
	}
}

// P4.1
func TestPutOfNumbersOneBehindTheOther(t *testing.T) {
	few := []api.Field{{N: 0, Width: 0}, {N: 1, Width: 1}, {N: 0, Width: 3}, {N: 5, Width: 3}, {N: 8, Width: 3}, {N: 0x81, Width: 8}, {N: 0x1ff, Width: 9}, {N: 1 << 30, Width: 31}, {N: 1<<32 - 1, Width: 32}, {N: 0, Width: 33}}
	for _, a := range few {
		for _, b := range few {
			for _, c := range few {
				w, row := &Writer{}, ""
				for _, f := range []api.Field{a, b, c} {
					d, ok := digits(f.N, f.Width)
					if e := w.Put(f.N, f.Width); (e == api.OK) != ok {
						t.Errorf("Put(%d, %d) = %d", f.N, f.Width, int(e))
					}
					row += d
					holds(t, w, row)
				}
			}
		}
	}
}

// P4.1
func TestWriteGamma(t *testing.T) {
	for _, ahead := range beginnings() {
		for _, n := range numbers() {
			w := begun(t, ahead)
			row, ok := gamma(n)
			want := api.OK
			if !ok {
				want = api.ErrArg
			}
			if e := w.Gamma(n); e != want {
				t.Fatalf("Gamma(%d) = %d, want %d", n, int(e), int(want))
			}
			holds(t, w, ahead+row)
			// What comes behind joins on, also behind an error.
			w.Put(5, 3)
			holds(t, w, ahead+row+"101")
		}
	}
}

// P4.1
func TestANilWriter(t *testing.T) {
	var w *Writer
	for _, n := range numbers() {
		for _, width := range widths() {
			if e := w.Put(n, width); e != api.ErrNil {
				t.Fatalf("Put(%d, %d) of a nil writer = %d", n, width, int(e))
			}
		}
		if e := w.Gamma(n); e != api.ErrNil {
			t.Errorf("Gamma(%d) of a nil writer = %d", n, int(e))
		}
	}
	if w.Len() != 0 || w.Text() != "" {
		t.Errorf("a nil writer: Len %d, Text %x", w.Len(), w.Text())
	}
}

// P4.1
func TestAWriterOfManyBits(t *testing.T) {
	w, row := &Writer{}, strings.Builder{}
	for i := range 20000 {
		n, width := i*i%32768, 15
		d, _ := digits(n, width)
		row.WriteString(d)
		if e := w.Put(n, width); e != api.OK {
			t.Fatalf("Put(%d, %d) = %d", n, width, int(e))
		}
	}
	holds(t, w, row.String())
}

// P4.1
func TestWritersAreApart(t *testing.T) {
	a, b := &Writer{}, &Writer{}
	a.Put(5, 3)
	was := a.Text()
	b.Put(0, 1)
	a.Put(31, 5)
	holds(t, a, "10111111")
	holds(t, b, "0")
	if was != "\xa0" {
		t.Errorf("what Text told became %x", was)
	}
}

// texts tells short texts of bytes with their first 1 at each place, and longer ones with many noughts.
func texts() []string {
	all := []string{""}
	for from := 0; len(all[from]) < 2; from++ {
		for _, b := range []string{"\x00", "\x01", "\x02", "\x05", "\x08", "\x1b", "\x20", "\x7f", "\x80", "\xff"} {
			all = append(all, all[from]+b)
		}
	}
	for k := range 7 {
		noughts := strings.Repeat("\x00", k)
		all = append(all, noughts, noughts+"\x01\xff\xff\xff\xff", noughts+"\x01", noughts+"\x80", noughts+"\xde\xad\xbe\xef\xca\xfe\xba\xbe")
	}
	return append(all, strings.Repeat("\xff", 9), strings.Repeat("\x55", 9), strings.Repeat("\xaa", 9), strings.Repeat("\x00", 9), "\x00\x00\x00\x00\xff\xff\xff\xff\x80")
}

// at makes a reader of a text that stands at a bit.
func at(t *testing.T, s string, bit int) *Reader {
	t.Helper()
	r := NewReader(s)
	for i := range bit {
		if n, e := r.Get(1); n != int(s[i/8]>>(7-i%8)&1) || e != api.OK {
			t.Fatalf("bit %d of %x: %d, %d", i, s, n, int(e))
		}
	}
	return r
}

// stays tells whether a reader has just a row left.
func stays(t *testing.T, r *Reader, row string) {
	t.Helper()
	for range 2 {
		if r.Left() != len(row) || r.Done() != wantDone(row) {
			t.Fatalf("a reader with %q left: Left %d, Done %v", row, r.Left(), r.Done())
		}
	}
}

// drains reads all that is left of a row bit by bit.
func drains(t *testing.T, r *Reader, row string) {
	t.Helper()
	for i := range len(row) {
		stays(t, r, row[i:])
		if n, e := r.Get(1); n != int(row[i]-'0') || e != api.OK {
			t.Fatalf("bit %d of %q: %d, %d", i, row, n, int(e))
		}
	}
	stays(t, r, "")
	if n, e := r.Get(1); n != 0 || e != api.ErrShort {
		t.Fatalf("a bit behind all: %d, %d", n, int(e))
	}
}

// gets asks a reader that has a row left for a number, and tells what is left then.
func gets(t *testing.T, r *Reader, row string, width int) string {
	t.Helper()
	want, size, f := wantGet(row, width)
	if n, e := r.Get(width); n != want || e != f {
		t.Fatalf("Get(%d) of %s = %d, %d, want %d, %d", width, row, n, int(e), want, int(f))
	}
	stays(t, r, row[size:])
	return row[size:]
}

// getsGamma asks a reader that has a row left for a number of its gamma bits, and tells what is left then.
func getsGamma(t *testing.T, r *Reader, row string) string {
	t.Helper()
	want, size, f := wantGamma(row)
	if n, e := r.Gamma(); n != want || e != f {
		t.Fatalf("Gamma of %s = %d, %d, want %d, %d", row, n, int(e), want, int(f))
	}
	stays(t, r, row[size:])
	return row[size:]
}

// P4.2
func TestAReaderHasTheBitsOfItsText(t *testing.T) {
	for _, s := range texts() {
		drains(t, NewReader(s), rowOf(s))
	}
}

// P4.2
func TestGetAtEachPlace(t *testing.T) {
	for _, s := range texts() {
		row := rowOf(s)
		for bit := range len(row) + 1 {
			for _, width := range widths() {
				r := at(t, s, bit)
				left := gets(t, r, row[bit:], width)
				// Whatever was told, the next bits are those behind it, or, behind an error, the same.
				drains(t, r, left)
			}
		}
	}
}

// P4.2
func TestReadGammaAtEachPlace(t *testing.T) {
	for _, s := range texts() {
		row := rowOf(s)
		for bit := range len(row) + 1 {
			r := at(t, s, bit)
			left := getsGamma(t, r, row[bit:])
			if left == row[bit:] {
				// What had an error has it again.
				left = getsGamma(t, r, left)
			}
			drains(t, r, left)
		}
	}
}

// P4.2
func TestReadGammaOfAllShortTexts(t *testing.T) {
	for n := range 1 << 16 {
		s := string([]byte{byte(n >> 8), byte(n)})
		r, row := NewReader(s), rowOf(s)
		for last := ""; row != last; {
			last = row
			row = getsGamma(t, r, row)
		}
	}
}

// P4.2
func TestTheErrorsOfGamma(t *testing.T) {
	for _, x := range []struct {
		row  string
		n    int
		want api.Errno
	}{
		{"", 0, api.ErrShort},
		{strings.Repeat("0", 8), 0, api.ErrShort},
		{strings.Repeat("0", 32), 0, api.ErrShort},
		{strings.Repeat("0", 400), 0, api.ErrShort},
		{strings.Repeat("0", 7) + "1", 0, api.ErrShort},
		{strings.Repeat("0", 31) + "1", 0, api.ErrShort},
		{strings.Repeat("0", 31) + "1" + strings.Repeat("1", 30), 1<<32 - 2, api.OK}, // the nought that fills its last byte belongs to it
		{strings.Repeat("0", 31) + "1" + strings.Repeat("1", 24), 0, api.ErrShort},
		{strings.Repeat("0", 31) + "1" + strings.Repeat("0", 31), 1 << 31, api.OK},
		{strings.Repeat("0", 31) + "1" + strings.Repeat("1", 31), 1<<32 - 1, api.OK},
		{strings.Repeat("0", 32) + "1" + strings.Repeat("1", 32), 0, api.ErrBits},
		{strings.Repeat("0", 32) + "1", 0, api.ErrBits},
		{strings.Repeat("0", 399) + "1", 0, api.ErrBits},
		{"1", 1, api.OK},
		{"00101", 5, api.OK},
	} {
		if n, e := NewReader(textOf(x.row)).Gamma(); n != x.n || e != x.want {
			t.Errorf("Gamma of %s = %d, %d, want %d, %d", x.row, n, int(e), x.n, int(x.want))
		}
	}
}

// P4.2
func TestDone(t *testing.T) {
	for _, x := range []struct {
		s    string
		bit  int
		want bool
	}{
		{"", 0, true}, {"\x00", 0, false}, {"\x00", 1, true}, {"\x00", 8, true}, {"\x01", 1, false}, {"\x01", 7, false}, {"\x01", 8, true},
		{"\xff\x00", 8, false}, {"\xff\x00", 7, false}, {"\xff\x00", 9, true}, {"\xff\x80", 9, true}, {"\xff\x40", 9, false}, {"\x00\x00", 0, false}, {"\x00\x00", 8, false},
	} {
		if got := at(t, x.s, x.bit).Done(); got != x.want {
			t.Errorf("Done at bit %d of %x = %v", x.bit, x.s, got)
		}
	}
}

// P4.2
func TestAReaderOfNoBits(t *testing.T) {
	var none *Reader
	for _, r := range []*Reader{none, {}, NewReader("")} {
		for range 2 {
			for _, width := range widths() {
				gets(t, r, "", width)
			}
			getsGamma(t, r, "")
		}
	}
}

// P4.2
func TestReadersAreApart(t *testing.T) {
	a, b := NewReader("\xa5"), NewReader("\xa5")
	a.Get(3)
	stays(t, b, "10100101")
	stays(t, a, "00101")
	if n, e := a.Gamma(); n != 5 || e != api.OK {
		t.Errorf("Gamma = %d, %d", n, int(e))
	}
	stays(t, b, "10100101")
}

// fields tells fields of which rows are made: some have bits, some none.
func fields() []api.Field {
	return []api.Field{{N: 0, Width: 0}, {N: 1, Width: 1}, {N: 0, Width: 2}, {N: 5, Width: 3}, {N: 0x1a5, Width: 9}, {N: 1<<32 - 1, Width: 32}, {N: 1, Width: 0}, {N: 8, Width: 3}, {N: -1, Width: 8}, {N: 0, Width: 33}, {N: 0, Width: -1}}
}

// rows tells all rows of up to so many of a list.
func rows[T any](l []T, most int) [][]T {
	all := [][]T{nil}
	for from := 0; len(all[from]) < most; from++ {
		for _, x := range l {
			all = append(all, append(slices.Clone(all[from]), x))
		}
	}
	return all
}

// P4.3
func TestPack(t *testing.T) {
	for _, l := range rows(fields(), 3) {
		row, want := "", api.OK
		for _, f := range l {
			d, ok := digits(f.N, f.Width)
			if !ok {
				row, want = "", api.ErrArg
				break
			}
			row += d
		}
		if s, e := Pack(l); s != textOf(row) || e != want {
			t.Errorf("Pack(%v) = %x, %d, want %x, %d", l, s, int(e), textOf(row), int(want))
		}
	}
}

// P4.3
func TestUnpack(t *testing.T) {
	for _, s := range []string{"", "\x00", "\xa8", "\xa8\x01", "\x12\x34\x56\x78\x9a"} {
		for _, l := range rows([]int{0, 1, 3, 8, 11, 32, 33, -1, math.MinInt, math.MaxInt}, 4) {
			var want []int
			row, wantAt, wantErr := rowOf(s), 0, api.OK
			for _, width := range l {
				n, size, e := wantGet(row[wantAt:], width)
				if e != api.OK {
					wantErr = e
					break
				}
				want, wantAt = append(want, n), wantAt+size
			}
			if got, at, e := Unpack(s, l); !slices.Equal(got, want) || at != wantAt || e != wantErr {
				t.Errorf("Unpack(%x, %v) = %v, %d, %d, want %v, %d, %d", s, l, got, at, int(e), want, wantAt, int(wantErr))
			}
		}
	}
}

// P4.3
func TestWhatUnpackTells(t *testing.T) {
	for _, x := range []struct {
		s      string
		widths []int
		want   []int
		at     int
		e      api.Errno
	}{
		{"", nil, nil, 0, api.OK},
		{"\xff", nil, nil, 0, api.OK},
		{"", []int{0, 0}, []int{0, 0}, 0, api.OK},
		{"", []int{0, 1, 0}, []int{0}, 0, api.ErrShort},
		{"\xa8", []int{3, 2}, []int{5, 1}, 5, api.OK},
		{"\xa8", []int{3, 2, 3}, []int{5, 1, 0}, 8, api.OK},
		{"\xa8", []int{3, 2, 4, 1}, []int{5, 1}, 5, api.ErrShort},
		{"\xa8", []int{3, 33, 2}, []int{5}, 3, api.ErrArg},
		{"\xa8", []int{-1}, nil, 0, api.ErrArg},
		{"\xff\xff\xff\xff\x80", []int{1, 32, 0, 7, 1}, []int{1, 1<<32 - 1, 0, 0}, 40, api.ErrShort},
	} {
		if l, at, e := Unpack(x.s, x.widths); !slices.Equal(l, x.want) || at != x.at || e != x.e {
			t.Errorf("Unpack(%x, %v) = %v, %d, %d, want %v, %d, %d", x.s, x.widths, l, at, int(e), x.want, x.at, int(x.e))
		}
	}
}

// P4.4
func TestUnpackOfPack(t *testing.T) {
	var all []api.Field
	for _, width := range widths() {
		for _, n := range numbers() {
			if _, ok := digits(n, width); ok {
				all = append(all, api.Field{N: n, Width: width})
			}
		}
	}
	lists := rows(fields()[:6], 4)
	for from := range 40 {
		lists = append(lists, all[from:], all[:len(all)-from])
	}
	for _, l := range lists {
		var ws, ns []int
		size := 0
		for _, f := range l {
			ws, ns, size = append(ws, f.Width), append(ns, f.N), size+f.Width
		}
		s, e := Pack(l)
		if e != api.OK {
			t.Fatalf("Pack(%v) = %d", l, int(e))
		}
		if got, at, e := Unpack(s, ws); !slices.Equal(got, ns) || at != size || e != api.OK {
			t.Errorf("Unpack of Pack of %v = %v, %d, %d", l, got, at, int(e))
		}
	}
}

// gammas tells numbers that have gamma bits.
func gammas() []int {
	return slices.DeleteFunc(numbers(), func(n int) bool {
		_, ok := gamma(n)
		return !ok
	})
}

// P4.5
func TestWhatGammaWritesGammaReads(t *testing.T) {
	for _, n := range gammas() {
		w := &Writer{}
		if e := w.Gamma(n); e != api.OK || w.Len()%2 != 1 {
			t.Errorf("Gamma(%d) = %d, with %d bits", n, int(e), w.Len())
		}
		r := NewReader(w.Text())
		if m, e := r.Gamma(); m != n || e != api.OK || !r.Done() || r.Left() != len(w.Text())*8-w.Len() {
			t.Errorf("%d is read as %d, %d, with %d left", n, m, int(e), r.Left())
		}
	}
}

// P4.5
func TestGammasOneBehindTheOther(t *testing.T) {
	l := gammas()
	lists := rows([]int{1, 2, 5, 255, 1<<32 - 1}, 4)
	for from := range l {
		lists = append(lists, l[from:], l[:from])
	}
	for _, l := range lists {
		w := &Writer{}
		for _, n := range l {
			w.Gamma(n)
		}
		r := NewReader(w.Text())
		for i, n := range l {
			if m, e := r.Gamma(); m != n || e != api.OK {
				t.Fatalf("%v: number %d is read as %d, %d", l, i, m, int(e))
			}
		}
		if !r.Done() {
			t.Errorf("%v: %d bits are left", l, r.Left())
		}
	}
}

// P4.5
func TestGammasAmongFields(t *testing.T) {
	w, row := &Writer{}, ""
	for _, n := range gammas() {
		for width := range 33 {
			low := n & (1<<width - 1)
			d, _ := digits(low, width)
			g, _ := gamma(n)
			w.Put(low, width)
			w.Gamma(n)
			row += d + g
		}
	}
	holds(t, w, row)
	r := NewReader(w.Text())
	for _, n := range gammas() {
		for width := range 33 {
			low, e := r.Get(width)
			m, f := r.Gamma()
			if low != n&(1<<width-1) || e != api.OK || m != n || f != api.OK {
				t.Fatalf("%d behind %d of its bits is read as %d, %d, behind %d, %d", n, width, m, int(f), low, int(e))
			}
		}
	}
	if !r.Done() {
		t.Errorf("%d bits are left", r.Left())
	}
}

// What is handed in is not changed, its spare room neither.
func TestListsStayAsTheyAre(t *testing.T) {
	few, some := fields(), widths()
	wasFew, wasSome := slices.Clone(few), slices.Clone(some)
	for n := range few {
		Pack(few[:n])
	}
	for n := range some {
		Unpack("\xa8\x01\x02\x03", some[:n])
	}
	if !slices.Equal(few, wasFew) || !slices.Equal(some, wasSome) {
		t.Errorf("the lists became %v, %v", few, some)
	}
}

// What is handed out is new memory.
func TestWhatIsUnpackedIsNew(t *testing.T) {
	ws := []int{3, 2}
	first, _, _ := Unpack("\xa8", ws)
	first[0], first[1] = 9, 9
	if second, at, e := Unpack("\xa8", ws); !slices.Equal(second, []int{5, 1}) || at != 5 || e != api.OK {
		t.Errorf("a second Unpack answers %v, %d, %d", second, at, int(e))
	}
	if !slices.Equal(ws, []int{3, 2}) {
		t.Errorf("the widths became %v", ws)
	}
}

func TestExample(t *testing.T) {
	if s, e := Pack([]api.Field{{N: 5, Width: 3}, {N: 1, Width: 2}}); s != "\xa8" || e != api.OK {
		t.Errorf("example 1 of the chapter: %x, %d", s, int(e))
	}
	w := &Writer{}
	w.Gamma(5)
	holds(t, w, "00101")
}
