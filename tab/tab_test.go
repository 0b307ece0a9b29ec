package tab

import (
	"math"
	"slices"
	"strconv"
	"strings"
	"testing"

	"varve/api"
	"varve/bits"
	"varve/lens"
)

// The tests hold tab against rows of the digits 0 and 1: they are made by the chapter's words, and read digit by digit, or found among all that can be made.

// digits is a number as a row of so many digits.
func digits(n, width int) string {
	s := strconv.FormatInt(int64(n), 2)
	return strings.Repeat("0", width-len(s)) + s
}

// gamma is a number's gamma bits as a row.
func gamma(n int) string {
	s := strconv.FormatInt(int64(n), 2)
	return strings.Repeat("0", len(s)-1) + s
}

// run is so many of a length as a row.
func run(length, count int) string { return digits(length, 4) + gamma(count) }

// rowOf is the bits of lengths: a run ends where the next length is another one.
func rowOf(lens []int) string {
	row, count := "", 0
	for i, n := range lens {
		count++
		if i+1 == len(lens) || lens[i+1] != n {
			row += run(n, count)
			count = 0
		}
	}
	return row
}

// wantRun is what the run is with which a row begins: the length, how many, how many digits it has, or the error.
func wantRun(row string) (length, count, size int, e api.Errno) {
	if len(row) < 4 {
		return 0, 0, 0, api.ErrShort
	}
	noughts := strings.Index(row[4:], "1")
	switch {
	case noughts < 0:
		return 0, 0, 0, api.ErrShort
	case noughts > 31:
		return 0, 0, 0, api.ErrBits
	}
	size = 4 + 2*noughts + 1
	if size > len(row) {
		return 0, 0, 0, api.ErrShort
	}
	high, _ := strconv.ParseInt(row[:4], 2, 64)
	many, _ := strconv.ParseInt(row[4:size], 2, 64)
	return int(high), int(many), size, api.OK
}

// wantGet is what Get tells of a row: the lengths, how many digits they had, or the error.
func wantGet(row string, n int) (l []int, size int, e api.Errno) {
	if n < 0 || n > 257 {
		return nil, 0, api.ErrArg
	}
	for last := -1; len(l) < n; {
		length, count, more, e := wantRun(row[size:])
		switch {
		case e != api.OK:
			return nil, 0, e
		case length == last:
			return nil, 0, api.ErrForm
		case len(l)+count > n:
			return nil, 0, api.ErrBits
		}
		for range count {
			l = append(l, length)
		}
		last, size = length, size+more
	}
	if e := lens.Check(l); e != api.OK {
		return nil, 0, e
	}
	return l, size, api.OK
}

// bitsOf is the bits of a text as a row.
func bitsOf(s string) string {
	var row strings.Builder
	for i := range len(s) {
		row.WriteString(digits(int(s[i]), 8))
	}
	return row.String()
}

// textOf is the bytes of a row, with noughts behind it up to a whole byte.
func textOf(row string) string {
	row += strings.Repeat("0", (8-len(row)%8)%8)
	var s []byte
	for ; row != ""; row = row[8:] {
		b, _ := strconv.ParseUint(row[:8], 2, 8)
		s = append(s, byte(b))
	}
	return string(s)
}

// left makes a reader that has just a row left.
func left(t *testing.T, row string) *bits.Reader {
	t.Helper()
	fill := (8 - len(row)%8) % 8
	r := bits.NewReader(textOf(strings.Repeat("1", fill) + row))
	if _, e := r.Get(fill); e != api.OK || r.Left() != len(row) {
		t.Fatalf("a reader of %s has %d bits left", row, r.Left())
	}
	return r
}

// drains tells whether a reader has just a row left.
func drains(t *testing.T, r *bits.Reader, row string) {
	t.Helper()
	if r.Left() != len(row) {
		t.Fatalf("a reader has %d bits left, not %d", r.Left(), len(row))
	}
	for ; row != ""; row = row[min(len(row), 32):] {
		part := row[:min(len(row), 32)]
		want, _ := strconv.ParseInt(part, 2, 64)
		if n, e := r.Get(len(part)); n != int(want) || e != api.OK {
			t.Fatalf("a reader has %s left, not %s", digits(n, len(part)), part)
		}
	}
}

// holds tells whether a writer has just the bits of a row.
func holds(t *testing.T, w *bits.Writer, row string) {
	t.Helper()
	if w.Len() != len(row) || w.Text() != textOf(row) {
		t.Fatalf("a writer of %s: Len %d, Text %x", row, w.Len(), w.Text())
	}
}

// begun makes a writer that has the bits of a row.
func begun(t *testing.T, row string) *bits.Writer {
	t.Helper()
	w := &bits.Writer{}
	for _, d := range row {
		w.Put(int(d-'0'), 1)
	}
	holds(t, w, row)
	return w
}

// listsOf tells all lists of up to so many of some numbers.
func listsOf(numbers []int, most int) [][]int {
	all := [][]int{nil}
	for from := 0; len(all[from]) < most; from++ {
		for _, n := range numbers {
			all = append(all, append(slices.Clone(all[from]), n))
		}
	}
	return all
}

// backward tells a list from its end on.
func backward(l []int) []int {
	l = slices.Clone(l)
	slices.Reverse(l)
	return l
}

// mixed tells n numbers from 0 to top without a rule, the same ones each time.
func mixed(n, top int) []int {
	seed := uint32(n + top)
	l := make([]int, n)
	for i := range l {
		seed = seed*1664525 + 1013904223
		l[i] = int(uint64(seed) * uint64(top+1) >> 32)
	}
	return l
}

// ladder tells one length of each, and the longest one twice.
func ladder() []int { return []int{1, 2, 3, 4, 5, 6, 7, 8, 9, 10, 11, 12, 13, 14, 15, 15} }

// fewLens tells all lengths of up to six symbols, none above 4, that a code has.
func fewLens() [][]int {
	return slices.DeleteFunc(listsOf([]int{0, 1, 2, 3, 4}, 6), func(l []int) bool { return lens.Check(l) != api.OK })
}

// runLens tells lengths with runs of many counts.
func runLens() [][]int {
	var all [][]int
	for n := range 257 {
		// One that is used, behind so many that are not, ahead of some, and among all there may be.
		one := make([]int, n+1)
		one[n] = 1
		rest := make([]int, 257)
		rest[n] = 1
		all = append(all, one, backward(one), rest, make([]int, n+1))
	}
	for width := 1; width <= 8; width++ {
		l := slices.Repeat([]int{width}, 1<<width)
		all = append(all, l, append([]int{0}, l...), append(slices.Clone(l), 0))
	}
	return all
}

// manyLens tells lengths that a code of many symbols, or of long words, has.
func manyLens() [][]int {
	all := [][]int{ladder(), backward(ladder()), append(slices.Repeat([]int{8}, 255), 9, 9), append([]int{9, 9}, slices.Repeat([]int{8}, 255)...), slices.Repeat([]int{7, 0}, 128), slices.Repeat([]int{0, 0, 6, 6}, 32), append(make([]int, 241), ladder()...)}
	for _, n := range []int{16, 17, 100, 256, 257} {
		for _, top := range []int{1, 2, 9, 1000, 1000000} {
			counts := mixed(n, top)
			for i := range counts {
				// Few that come often, and many that seldom do: the words have many lengths then.
				counts[i] = counts[i] >> (i % 20)
			}
			for _, most := range []int{9, 12, 15} {
				best, _ := lens.Best(counts, most)
				all = append(all, best, slices.Sorted(slices.Values(best)))
			}
		}
	}
	return all
}

// goodLens tells all of these.
func goodLens() [][]int { return slices.Concat(fewLens(), runLens(), manyLens()) }

// bad is lengths that no code has, and what is told of them.
type bad struct {
	name string
	lens []int
	want api.Errno
}

// badLens tells such ones.
func badLens() []bad {
	return []bad{
		{"one alone of length 2", []int{2}, api.ErrLens},
		{"one alone of length 15", []int{0, 15}, api.ErrLens},
		{"a half and a quarter", []int{1, 2}, api.ErrLens},
		{"three halves", []int{1, 1, 1}, api.ErrLens},
		{"a length below 0", []int{1, 1, -1}, api.ErrLens},
		{"a length above 15", []int{1, 1, 16}, api.ErrLens},
		{"the least length", []int{math.MinInt}, api.ErrLens},
		{"the greatest length", []int{math.MaxInt}, api.ErrLens},
		{"a ladder without a step", ladder()[:15], api.ErrLens},
		{"a ladder with a step more", append(ladder(), 15), api.ErrLens},
		{"257 of length 8", slices.Repeat([]int{8}, 257), api.ErrLens},
		{"258 symbols, none used", make([]int, 258), api.ErrBig},
		{"258 symbols, one used", append(make([]int, 257), 1), api.ErrBig},
		{"258 symbols, one below 0", append(make([]int, 257), -1), api.ErrBig},
		{"258 symbols that would fill a code", append(slices.Repeat([]int{8}, 254), 9, 9, 9, 9), api.ErrBig},
		{"100000 symbols", slices.Repeat([]int{3}, 100000), api.ErrBig},
	}
}

// beginnings tells rows that end at each place of a byte.
func beginnings() []string {
	return []string{"", "1", "01", "101", "0000", "11111", "011010", "1111111", "00000000", "110011001"}
}

// short tells so much of a list as can be read.
func short(l []int) []int { return l[:min(len(l), 20)] }

// P10.1
func TestPut(t *testing.T) {
	for _, l := range goodLens() {
		for _, ahead := range beginnings() {
			w := begun(t, ahead)
			if e := Put(w, l); e != api.OK {
				t.Fatalf("Put(%v) = %d", short(l), int(e))
			}
			holds(t, w, ahead+rowOf(l))
		}
	}
}

// P10.1
func TestPutOneBehindTheOther(t *testing.T) {
	w, row := &bits.Writer{}, ""
	for _, l := range goodLens() {
		if e := Put(w, l); e != api.OK {
			t.Fatalf("Put(%v) = %d", short(l), int(e))
		}
		// Runs do not go on from lengths to the next ones.
		row += rowOf(l)
	}
	holds(t, w, row)
}

// P10.1
func TestPackAndSize(t *testing.T) {
	for _, l := range goodLens() {
		row := rowOf(l)
		if s, e := Pack(l); s != textOf(row) || e != api.OK {
			t.Errorf("Pack(%v) = %x, %d, want %x", short(l), s, int(e), textOf(row))
		}
		if n := Size(l); n != len(row) {
			t.Errorf("Size(%v) = %d, want %d", short(l), n, len(row))
		}
	}
}

// P10.1: worked by hand.
func TestSomeRows(t *testing.T) {
	for _, x := range []struct {
		lens []int
		row  string
	}{
		{nil, ""},
		{[]int{}, ""},
		{[]int{0}, "0000" + "1"},
		{[]int{1}, "0001" + "1"},
		{[]int{0, 0}, "0000" + "010"},
		{[]int{1, 1}, "0001" + "010"},
		{[]int{0, 1}, "0000" + "1" + "0001" + "1"},
		{[]int{2, 1, 2}, "0010" + "1" + "0001" + "1" + "0010" + "1"},
		{[]int{1, 2, 2}, "0001" + "1" + "0010" + "010"},
		{[]int{0, 0, 0, 1}, "0000" + "011" + "0001" + "1"},
		{[]int{2, 2, 2, 2}, "0010" + "00100"},
		{[]int{2, 2, 0, 2, 2}, "0010" + "010" + "0000" + "1" + "0010" + "010"},
		{[]int{3, 3, 3, 3, 1}, "0011" + "00100" + "0001" + "1"},
		{make([]int, 255), "0000" + "0000000" + "11111111"},
		{make([]int, 256), "0000" + "00000000" + "100000000"},
		{make([]int, 257), "0000" + "00000000" + "100000001"},
		{slices.Repeat([]int{8}, 256), "1000" + "00000000" + "100000000"},
		{ladder(), "00011" + "00101" + "00111" + "01001" + "01011" + "01101" + "01111" + "10001" + "10011" + "10101" + "10111" + "11001" + "11011" + "11101" + "1111" + "010"},
	} {
		if s, e := Pack(x.lens); s != textOf(x.row) || e != api.OK {
			t.Errorf("Pack(%v) = %x, %d, want %x", short(x.lens), s, int(e), textOf(x.row))
		}
		if n := Size(x.lens); n != len(x.row) {
			t.Errorf("Size(%v) = %d, want %d", short(x.lens), n, len(x.row))
		}
	}
}

// P10.1
func TestLengthsThatNoCodeHas(t *testing.T) {
	for _, x := range badLens() {
		if e := lens.Check(x.lens); e != x.want {
			t.Errorf("Check of %s = %d", x.name, int(e))
		}
		for _, ahead := range beginnings() {
			w := begun(t, ahead)
			if e := Put(w, x.lens); e != x.want {
				t.Errorf("Put of %s = %d, want %d", x.name, int(e), int(x.want))
			}
			holds(t, w, ahead)
		}
		if s, e := Pack(x.lens); s != "" || e != x.want {
			t.Errorf("Pack of %s = %x, %d, want %d", x.name, s, int(e), int(x.want))
		}
		if n := Size(x.lens); n != 0 {
			t.Errorf("Size of %s = %d", x.name, n)
		}
	}
}

// P10.1
func TestPutTakesWhatCheckTakes(t *testing.T) {
	for _, l := range listsOf([]int{-1, 0, 1, 2, 3, 15, 16}, 4) {
		want, row := lens.Check(l), ""
		if want == api.OK {
			row = rowOf(l)
		}
		w := begun(t, "101")
		if e := Put(w, l); e != want {
			t.Errorf("Put(%v) = %d, want %d", l, int(e), int(want))
		}
		holds(t, w, "101"+row)
		if s, e := Pack(l); s != textOf(row) || e != want {
			t.Errorf("Pack(%v) = %x, %d, want %x, %d", l, s, int(e), textOf(row), int(want))
		}
		if n := Size(l); n != len(row) {
			t.Errorf("Size(%v) = %d, want %d", l, n, len(row))
		}
	}
}

// P10.1: that there is no writer is told ahead of what is wrong with the lengths.
func TestPutIntoNoWriter(t *testing.T) {
	for _, l := range [][]int{nil, {}, {0}, {1}, {2, 1, 2}, make([]int, 257)} {
		if e := Put(nil, l); e != api.ErrNil {
			t.Errorf("Put(nil, %v) = %d", short(l), int(e))
		}
	}
	for _, x := range badLens() {
		if e := Put(nil, x.lens); e != api.ErrNil {
			t.Errorf("Put into no writer of %s = %d", x.name, int(e))
		}
	}
}

// gets asks a reader that has just a row left for lengths, and then for all that is left.
func gets(t *testing.T, row string, n int) {
	t.Helper()
	r := left(t, row)
	want, size, f := wantGet(row, n)
	if l, e := Get(r, n); !slices.Equal(l, want) || e != f {
		t.Fatalf("Get of %d of %s = %v, %d, want %v, %d", n, row, short(l), int(e), short(want), int(f))
	}
	if f != api.OK {
		// What had an error has it again.
		if l, e := Get(r, n); len(l) != 0 || e != f {
			t.Fatalf("Get again of %d of %s = %v, %d, want %d", n, row, short(l), int(e), int(f))
		}
	}
	drains(t, r, row[size:])
}

// P10.2
func TestGetOfAllShortTexts(t *testing.T) {
	for n := range 1 << 16 {
		row := digits(n, 16)
		for _, many := range []int{-1, 0, 1, 2, 3, 4, 9, 257, 258} {
			gets(t, row, many)
		}
		gets(t, row[n%16:], n%5)
	}
}

// P10.2, P10.4: what Get takes is just what can be made, whatever stands behind it.
func TestGetTakesWhatCanBeMade(t *testing.T) {
	made := map[string][]int{}
	for _, l := range fewLens() {
		made[strconv.Itoa(len(l))+" "+rowOf(l)] = l
	}
	for i := range 1 << 15 {
		row := digits(i, 15)
		for n := range 5 {
			var want []int
			size := -1
			for to := range len(row) + 1 {
				if l, ok := made[strconv.Itoa(n)+" "+row[:to]]; ok {
					want, size = l, to
				}
			}
			r := left(t, row)
			l, e := Get(r, n)
			if !slices.Equal(l, want) || (e == api.OK) != (size >= 0) || r.Left() != len(row)-max(size, 0) {
				t.Fatalf("Get of %d of %s = %v, %d, with %d bits left, want %v", n, row, l, int(e), r.Left(), want)
			}
		}
	}
}

// P10.2
func TestGetOfWhatIsMade(t *testing.T) {
	for _, l := range goodLens() {
		row := rowOf(l)
		for _, behind := range []string{"", "0", "1", "00000", "00011", "110100101"} {
			gets(t, row+behind, len(l))
		}
		for _, n := range []int{len(l) - 1, len(l) + 1, 0, -1, 257, 258, math.MinInt, math.MaxInt} {
			gets(t, row+"0001", n)
		}
	}
}

// P10.2
func TestGetOfEachBeginning(t *testing.T) {
	for _, l := range manyLens() {
		row := rowOf(l)
		for n := range len(row) {
			r := left(t, row[:n])
			// Whatever is cut off leaves too few bits, and is told only where it is come to.
			if got, e := Get(r, len(l)); len(got) != 0 || e != api.ErrShort {
				t.Fatalf("Get of %d of %s = %v, %d", len(l), row[:n], short(got), int(e))
			}
			if r.Left() != n {
				t.Fatalf("Get of %d of %s left %d bits", len(l), row[:n], r.Left())
			}
		}
	}
}

// P10.2
func TestGetOfRunsThatMayNotBe(t *testing.T) {
	lengths, counts := []int{0, 1, 2, 15}, []int{1, 2, 3, 4, 255, 256, 257, 258, 1<<31 + 1, 1<<32 - 1}
	var runs []string
	for _, length := range lengths {
		for _, count := range counts {
			runs = append(runs, run(length, count))
		}
		for _, behind := range []string{"", "0", strings.Repeat("0", 31) + "1", strings.Repeat("0", 32), strings.Repeat("0", 32) + "1", strings.Repeat("0", 32) + "1" + strings.Repeat("0", 32)} {
			runs = append(runs, digits(length, 4)+behind)
		}
	}
	for _, a := range runs {
		for _, b := range runs {
			for _, n := range []int{1, 2, 3, 4, 256, 257} {
				gets(t, a+b, n)
				gets(t, "00011"+a+b, n)
			}
		}
	}
}

// P10.2: worked by hand; where several errors apply, the one that the chapter names first.
func TestTheErrorsOfGet(t *testing.T) {
	noughts := strings.Repeat("0", 32)
	for _, x := range []struct {
		name string
		row  string
		n    int
		want api.Errno
	}{
		{"none below 0", "00011", -1, api.ErrArg},
		{"none above 257", run(0, 258), 258, api.ErrArg},
		{"the least number", "", math.MinInt, api.ErrArg},
		{"the greatest number", "", math.MaxInt, api.ErrArg},
		{"none of nothing", "", 0, api.OK},
		{"none of something", "1", 0, api.OK},
		{"one of nothing", "", 1, api.ErrShort},
		{"three bits", "000", 1, api.ErrShort},
		{"a length alone", "0001", 1, api.ErrShort},
		{"gamma bits without a 1", "0001" + "0000000", 1, api.ErrShort},
		{"gamma bits without a 1, however many", "0001" + noughts + noughts, 1, api.ErrShort},
		{"gamma bits without an end", "0001" + "0010", 1, api.ErrShort},
		{"more than 31 noughts", "0001" + noughts + "1" + noughts, 1, api.ErrBits},
		{"a run of one too many", "0000" + "010", 1, api.ErrBits},
		{"a run of one too many behind another", "0000" + "1" + "0001" + "010", 2, api.ErrBits},
		{"a run of 258", run(0, 258), 257, api.ErrBits},
		{"a run of 2^32 - 1", run(0, 1<<32-1), 257, api.ErrBits},
		{"two runs of 2^32 - 1 at the same length", run(0, 1) + run(0, 1<<32-1), 257, api.ErrForm},
		{"a run that goes on", run(0, 1) + run(0, 1), 2, api.ErrForm},
		{"a run that goes on too far", run(0, 1) + run(0, 2), 2, api.ErrForm},
		{"a run that goes on without an end", run(0, 1) + "0000", 2, api.ErrShort},
		{"a run that goes on with too many noughts", run(0, 1) + "0000" + noughts + "1", 2, api.ErrBits},
		{"a run that goes on behind another", run(1, 1) + run(0, 1) + run(0, 1), 3, api.ErrForm},
		{"a length that comes again", run(2, 1) + run(1, 1) + run(2, 1), 3, api.OK},
		{"what would go on behind all", run(0, 2) + run(0, 1), 2, api.OK},
		{"what has no form behind all", run(0, 2) + noughts + noughts + "1", 2, api.OK},
		{"too few runs", run(2, 1) + run(1, 1), 3, api.ErrShort},
		{"one alone of length 2", run(2, 1), 1, api.ErrLens},
		{"two of length 2", run(2, 2), 2, api.ErrLens},
		{"too long a run of a length that no code has", run(2, 2), 1, api.ErrBits},
		{"three halves", run(1, 3), 3, api.ErrLens},
		{"a half and a quarter", run(1, 1) + run(2, 1), 2, api.ErrLens},
		{"257 of length 8", run(8, 257), 257, api.ErrLens},
		{"257 of length 8, one not used", run(8, 256) + run(0, 1), 257, api.OK},
		{"257 that are not used", run(0, 257), 257, api.OK},
		{"a ladder", rowOf(ladder()), 16, api.OK},
		{"a ladder without its last step", rowOf(ladder()[:15]), 15, api.ErrLens},
		{"a ladder of which one more is asked for", rowOf(ladder()), 17, api.ErrShort},
	} {
		r := left(t, x.row)
		l, e := Get(r, x.n)
		if e != x.want || e != api.OK && len(l) != 0 || e == api.OK && len(l) != x.n {
			t.Errorf("Get of %s = %v, %d, want %d", x.name, short(l), int(e), int(x.want))
		}
		if e != api.OK {
			drains(t, r, x.row)
		}
	}
}

// P10.2
func TestGetAtEachPlace(t *testing.T) {
	for _, s := range []string{"\x28\xca\x00", "\x00\x00\x00\x00\x00\x18", "\xff\xff\xff", "\x14\x14\x14", "\x18\xc0\x18\xc0", "\x00\x80\x80\x18", "\xde\xad\xbe\xef"} {
		row := bitsOf(s)
		for at := range len(row) + 1 {
			for n := range 5 {
				r := bits.NewReader(s)
				for range at {
					r.Get(1)
				}
				want, size, f := wantGet(row[at:], n)
				if l, e := Get(r, n); !slices.Equal(l, want) || e != f {
					t.Fatalf("Get of %d at bit %d of %x = %v, %d, want %v, %d", n, at, s, l, int(e), want, int(f))
				}
				drains(t, r, row[at+size:])
			}
		}
	}
}

// P10.2
func TestGetFromNoReader(t *testing.T) {
	for _, r := range []*bits.Reader{nil, {}, bits.NewReader("")} {
		for _, x := range []struct {
			n    int
			want api.Errno
		}{{math.MinInt, api.ErrArg}, {-1, api.ErrArg}, {0, api.OK}, {1, api.ErrShort}, {257, api.ErrShort}, {258, api.ErrArg}, {math.MaxInt, api.ErrArg}} {
			for range 2 {
				if l, e := Get(r, x.n); len(l) != 0 || e != x.want {
					t.Errorf("Get of %d from a reader of no bits = %v, %d, want %d", x.n, l, int(e), int(x.want))
				}
			}
		}
	}
}

// P10.2
func TestGetOneBehindTheOther(t *testing.T) {
	all := goodLens()
	var row strings.Builder
	for _, l := range all {
		row.WriteString(rowOf(l))
	}
	r := left(t, row.String())
	for i, l := range all {
		if got, e := Get(r, len(l)); !slices.Equal(got, l) || e != api.OK {
			t.Fatalf("list %d, %v, is got as %v, %d", i, short(l), short(got), int(e))
		}
	}
	drains(t, r, "")
}

// P10.2
func TestReadersAreApart(t *testing.T) {
	a, b := bits.NewReader("\x28\xca"), bits.NewReader("\x28\xca")
	if l, e := Get(a, 3); !slices.Equal(l, []int{2, 1, 2}) || e != api.OK {
		t.Errorf("Get = %v, %d", l, int(e))
	}
	drains(t, b, "0010100011001010")
	drains(t, a, "0")
}

// P10.2
func TestUnpack(t *testing.T) {
	var texts []string
	for n := range 1 << 8 {
		texts = append(texts, string([]byte{byte(n)}), string([]byte{byte(n), byte(n * n), byte(n * 7)}))
	}
	for _, l := range goodLens() {
		texts = append(texts, textOf(rowOf(l)))
	}
	for _, s := range append(texts, "", "\x28\xca", "\x2c", "\x14", "\x18\xc0", strings.Repeat("\x00", 9), strings.Repeat("\xff", 9)) {
		row := bitsOf(s)
		for _, n := range []int{math.MinInt, -1, 0, 1, 2, 3, 4, 5, 16, 100, 256, 257, 258, math.MaxInt} {
			want, at, f := wantGet(row, n)
			if l, to, e := Unpack(s, n); !slices.Equal(l, want) || to != at || e != f {
				t.Fatalf("Unpack(%x, %d) = %v, %d, %d, want %v, %d, %d", s, n, short(l), to, int(e), short(want), at, int(f))
			}
		}
	}
}

// P10.2
func TestWhatUnpackTells(t *testing.T) {
	for _, x := range []struct {
		s    string
		n    int
		want []int
		at   int
		e    api.Errno
	}{
		{"", 0, nil, 0, api.OK},
		{"\xff", 0, nil, 0, api.OK},
		{"", 1, nil, 0, api.ErrShort},
		{"\x28\xca", 3, []int{2, 1, 2}, 15, api.OK},
		{"\x28\xca\xff", 3, []int{2, 1, 2}, 15, api.OK},
		{"\x28\xca", 1, nil, 0, api.ErrLens},
		{"\x28\xca", 2, nil, 0, api.ErrLens},
		{"\x28\xca", 4, nil, 0, api.ErrShort},
		{"\x18", 1, []int{1}, 5, api.OK},
		{"\x14", 2, []int{1, 1}, 7, api.OK},
		{"\x14", 1, nil, 0, api.ErrBits},
		{"\x18\xc0", 2, nil, 0, api.ErrForm},
		{"\x18\xc0", 1, []int{1}, 5, api.OK},
		{"\x00\x08\x08", 257, make([]int, 257), 21, api.OK},
		{"\x00\x08\x08", 256, nil, 0, api.ErrBits},
		{"\x00\x08\x08", -1, nil, 0, api.ErrArg},
		{"\x00\x08\x08", 258, nil, 0, api.ErrArg},
	} {
		if l, at, e := Unpack(x.s, x.n); !slices.Equal(l, x.want) || at != x.at || e != x.e {
			t.Errorf("Unpack(%x, %d) = %v, %d, %d, want %v, %d, %d", x.s, x.n, short(l), at, int(e), short(x.want), x.at, int(x.e))
		}
	}
}

// P10.3
func TestUnpackOfPack(t *testing.T) {
	for _, l := range goodLens() {
		s, e := Pack(l)
		if e != api.OK || len(s) != (Size(l)+7)/8 {
			t.Fatalf("Pack(%v) = %d bytes, %d", short(l), len(s), int(e))
		}
		if got, at, e := Unpack(s, len(l)); !slices.Equal(got, l) || at != Size(l) || e != api.OK {
			t.Fatalf("Unpack of Pack of %v = %v, %d, %d", short(l), short(got), at, int(e))
		}
	}
}

// P10.4
func TestPutOfGet(t *testing.T) {
	took := 0
	for n := range 1 << 16 {
		row := digits(n, 16)
		for many := range 6 {
			r := left(t, row)
			l, e := Get(r, many)
			if e != api.OK {
				continue
			}
			took++
			w := &bits.Writer{}
			if e := Put(w, l); e != api.OK {
				t.Fatalf("Put of Get of %d of %s = %d", many, row, int(e))
			}
			holds(t, w, row[:len(row)-r.Left()])
			if size := Size(l); size != w.Len() {
				t.Fatalf("Size of Get of %d of %s = %d", many, row, size)
			}
		}
	}
	if took <= 1<<16 {
		t.Errorf("nothing was got but no lengths")
	}
}

// What is handed in is not changed, its spare room neither.
func TestListsAreNotChanged(t *testing.T) {
	all := goodLens()
	for _, x := range badLens() {
		all = append(all, x.lens)
	}
	for _, l := range all {
		room := append(slices.Clone(l), 7, 0, 9)
		before := slices.Clone(room)
		Put(&bits.Writer{}, room[:len(l)])
		Pack(room[:len(l)])
		Size(room[:len(l)])
		if !slices.Equal(room, before) {
			t.Errorf("%v was changed to %v", short(before), short(room))
		}
	}
}

// What is handed out is new, and nothing is kept.
func TestCallsAreApart(t *testing.T) {
	l := []int{2, 1, 2}
	w := &bits.Writer{}
	Put(w, l)
	clear(l)
	holds(t, w, "001010001100101")
	first, _, _ := Unpack("\x28\xca", 3)
	again, _ := Get(bits.NewReader("\x28\xca"), 3)
	clear(first)
	clear(again)
	if got, at, e := Unpack("\x28\xca", 3); !slices.Equal(got, []int{2, 1, 2}) || at != 15 || e != api.OK {
		t.Errorf("a second Unpack = %v, %d, %d", got, at, int(e))
	}
}

// The chapter's example.
func TestExample(t *testing.T) {
	l := []int{2, 1, 2}
	w := &bits.Writer{}
	if e := Put(w, l); e != api.OK {
		t.Errorf("Put = %d", int(e))
	}
	holds(t, w, "0010"+"1"+"0001"+"1"+"0010"+"1")
	if s, e := Pack(l); s != "\x28\xca" || e != api.OK || Size(l) != 15 {
		t.Errorf("Pack = %x, %d, Size %d", s, int(e), Size(l))
	}
}
