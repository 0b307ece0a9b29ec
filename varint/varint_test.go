package varint

import (
	"encoding/binary"
	"math"
	"math/big"
	"math/bits"
	"slices"
	"strings"
	"testing"

	"varve/api"
)

// numbers tells numbers from 0 on: all small ones, and those beside each power of 2, which is where digits become more.
func numbers() []int {
	var l []int
	for n := range 20000 {
		l = append(l, n)
	}
	for k := 14; k < 63; k++ {
		p := 1 << k
		l = append(l, p-2, p-1, p, p+1, p+p/2, p|0x55)
	}
	l = append(l, math.MaxInt-2, math.MaxInt-1, math.MaxInt)
	slices.Sort(l)
	return slices.Compact(l)
}

// negative tells numbers below 0.
func negative() []int {
	return []int{-1, -2, -127, -128, -129, -1 << 31, -1 << 32, math.MinInt + 1, math.MinInt}
}

// texts tells texts as Get may meet them: all short ones of bytes at the edges, and numbers up to beyond the greatest length.
func texts() []string {
	edges := []byte{0, 1, 127, 128, 129, 255}
	all := []string{""}
	for from := 0; len(all[from]) < 5; from++ {
		for _, b := range edges {
			all = append(all, all[from]+string([]byte{b}))
		}
	}
	for k := range 13 {
		for _, high := range []string{"\x80", "\x81", "\xff"} {
			ahead := strings.Repeat(high, k)
			all = append(all, ahead)
			for b := range 256 {
				all = append(all, ahead+string([]byte{byte(b)}), ahead+string([]byte{byte(b), 0}), ahead+string([]byte{byte(b), 255}))
			}
		}
	}
	return all
}

// got is what Get and Unfix answer.
type got struct {
	n, to int
	e     api.Errno
}

func get(s string, at int) got {
	n, to, e := Get(s, at)
	return got{n, to, e}
}

func unfix(s string, at, width int) got {
	n, to, e := Unfix(s, at, width)
	return got{n, to, e}
}

// value adds digits up, the lowest one first, as a number without an end.
func value(digits string, base int64) *big.Int {
	n := new(big.Int)
	for i := len(digits) - 1; i >= 0; i-- {
		n.Mul(n, big.NewInt(base))
		n.Add(n, big.NewInt(int64(digits[i])%base))
	}
	return n
}

// wantGet is P2.2, word by word.
func wantGet(s string, at int) got {
	if at < 0 || at > len(s) {
		return got{e: api.ErrArg}
	}
	rest := []byte(s[at:])
	last := slices.IndexFunc(rest, func(b byte) bool { return b < 128 })
	if last < 0 && len(rest) <= 8 {
		return got{e: api.ErrShort}
	}
	if last < 0 || last+1 > 9 {
		return got{e: api.ErrForm}
	}
	n := value(string(rest[:last+1]), 128)
	if n.Cmp(big.NewInt(math.MaxInt64)) > 0 || rest[last] == 0 && last > 0 {
		return got{e: api.ErrForm}
	}
	return got{n: int(n.Int64()), to: at + last + 1}
}

// wantUnfix is P2.3's Unfix, word by word.
func wantUnfix(s string, at, width int) got {
	if width < 1 || width > 8 || at < 0 || at > len(s) {
		return got{e: api.ErrArg}
	}
	if len(s)-at < width {
		return got{e: api.ErrShort}
	}
	n := value(s[at:at+width], 256)
	if n.Cmp(big.NewInt(math.MaxInt64)) > 0 {
		return got{e: api.ErrForm}
	}
	return got{n: int(n.Int64()), to: at + width}
}

// P2.1
func TestSizePut(t *testing.T) {
	for _, n := range numbers() {
		want := string(binary.AppendUvarint(nil, uint64(n)))
		if s, e := Put(n); s != want || e != api.OK {
			t.Errorf("Put(%d) = %x, %d, want %x", n, s, int(e), want)
		}
		if size := Size(n); size != len(want) {
			t.Errorf("Size(%d) = %d, want %d", n, size, len(want))
		}
	}
	for _, n := range negative() {
		if s, e := Put(n); s != "" || e != api.ErrArg {
			t.Errorf("Put(%d) = %x, %d", n, s, int(e))
		}
		if size := Size(n); size != 0 {
			t.Errorf("Size(%d) = %d", n, size)
		}
	}
}

// P2.1
func TestPutAtTheEdges(t *testing.T) {
	for n, want := range map[int]string{0: "\x00", 1: "\x01", 127: "\x7f", 128: "\x80\x01", 16383: "\xff\x7f", 16384: "\x80\x80\x01", 1 << 56: "\x80\x80\x80\x80\x80\x80\x80\x80\x01", math.MaxInt: "\xff\xff\xff\xff\xff\xff\xff\xff\x7f"} {
		if s, e := Put(n); s != want || e != api.OK {
			t.Errorf("Put(%d) = %x, %d, want %x", n, s, int(e), want)
		}
	}
}

// P2.2
func TestGet(t *testing.T) {
	for _, s := range texts() {
		for at := range len(s) + 1 {
			if g, want := get(s, at), wantGet(s, at); g != want {
				t.Errorf("Get(%x, %d) = %v, want %v", s, at, g, want)
			}
		}
	}
}

// P2.2
func TestGetAtTheEdges(t *testing.T) {
	high := func(n int) string { return strings.Repeat("\x80", n) }
	for s, want := range map[string]got{
		"":                                     {e: api.ErrShort},
		high(1):                                {e: api.ErrShort},
		high(8):                                {e: api.ErrShort},
		high(9):                                {e: api.ErrForm},
		high(10):                               {e: api.ErrForm},
		high(9) + "\x01":                       {e: api.ErrForm},
		high(9) + "\x00":                       {e: api.ErrForm},
		high(8) + "\x01":                       {n: 1 << 56, to: 9},
		high(8) + "\x00":                       {e: api.ErrForm},
		high(1) + "\x00":                       {e: api.ErrForm},
		"\x00":                                 {n: 0, to: 1},
		"\x00\x80":                             {n: 0, to: 1},
		"\xac\x02\x00":                         {n: 300, to: 2},
		"\xff\xff\xff\xff\xff\xff\xff\xff\x7f": {n: math.MaxInt, to: 9},
		"\xff\xff\xff\xff\xff\xff\xff\xff\xff": {e: api.ErrForm},
		"\xff\xff\xff\xff\xff\xff\xff\xff\xff\x01": {e: api.ErrForm},
	} {
		if g := get(s, 0); g != want {
			t.Errorf("Get(%x, 0) = %v, want %v", s, g, want)
		}
	}
}

// beside tells places that a text of so many bytes does not have.
func beside(size int) []int {
	return []int{math.MinInt, math.MinInt + 1, -2, -1, size + 1, size + 2, math.MaxInt - 1, math.MaxInt}
}

// P2.2, P2.3, P2.4
func TestPlacesThatATextDoesNotHave(t *testing.T) {
	for _, s := range []string{"", "\x01", "\x80", "\x01\x02\x03\x04\x05\x06\x07\x08\x09"} {
		for _, at := range beside(len(s)) {
			if g := get(s, at); g != (got{e: api.ErrArg}) {
				t.Errorf("Get(%x, %d) = %v", s, at, g)
			}
			if g := unfix(s, at, 1); g != (got{e: api.ErrArg}) {
				t.Errorf("Unfix(%x, %d, 1) = %v", s, at, g)
			}
			if l, to, e := Unlist(s, at, 9); len(l) != 0 || to != 0 || e != api.ErrArg {
				t.Errorf("Unlist(%x, %d, 9) = %v, %d, %d", s, at, l, to, int(e))
			}
		}
		if g := get(s, len(s)); g != (got{e: api.ErrShort}) {
			t.Errorf("Get(%x, %d) = %v", s, len(s), g)
		}
		if g := unfix(s, len(s), 1); g != (got{e: api.ErrShort}) {
			t.Errorf("Unfix(%x, %d, 1) = %v", s, len(s), g)
		}
	}
}

// widths tells widths, and numbers that are none.
func widths() []int {
	return []int{math.MinInt, -8, -1, 0, 1, 2, 3, 4, 5, 6, 7, 8, 9, 16, 64, math.MaxInt / 8, math.MaxInt}
}

// P2.3
func TestFix(t *testing.T) {
	for _, n := range append(numbers(), negative()...) {
		for _, width := range widths() {
			want, f := "", api.ErrArg
			if width >= 1 && width <= 8 && n >= 0 && bits.Len(uint(n)) <= 8*width {
				want, f = string(binary.LittleEndian.AppendUint64(nil, uint64(n))[:width]), api.OK
			}
			if s, e := Fix(n, width); s != want || e != f {
				t.Errorf("Fix(%d, %d) = %x, %d, want %x, %d", n, width, s, int(e), want, int(f))
			}
		}
	}
}

// P2.3
func TestUnfix(t *testing.T) {
	l := []string{"", "\xff", "\x2c\x01\x00\x00", "\x01\x00\x00\x00\x00\x00\x00\x00\x02"}
	for _, high := range []string{"\x00", "\x7e", "\x7f", "\x80", "\x81", "\xff"} {
		for _, low := range []string{"\x00", "\x01", "\x80", "\xff"} {
			l = append(l, strings.Repeat(low, 7)+high, "ab"+strings.Repeat(low, 7)+high+"c", strings.Repeat(low, 3)+high)
		}
	}
	for _, s := range l {
		for at := range len(s) + 1 {
			for _, width := range widths() {
				if g, want := unfix(s, at, width), wantUnfix(s, at, width); g != want {
					t.Errorf("Unfix(%x, %d, %d) = %v, want %v", s, at, width, g, want)
				}
			}
		}
	}
}

// P2.3
func TestUnfixOfFix(t *testing.T) {
	for _, n := range numbers() {
		for width := 1; width <= 8; width++ {
			s, e := Fix(n, width)
			if e != api.OK {
				continue
			}
			if g := unfix("\xff\x00"+s+"\xff", 2, width); g != (got{n: n, to: 2 + width}) {
				t.Errorf("Unfix of Fix(%d, %d) = %v", n, width, g)
			}
		}
	}
}

// P2.3: a width that may not be comes ahead of the bytes that are not there.
func TestTheFirstErrorOfUnfix(t *testing.T) {
	for _, width := range []int{0, 9} {
		if g := unfix("", 0, width); g != (got{e: api.ErrArg}) {
			t.Errorf("Unfix of nothing with width %d = %v", width, g)
		}
	}
	if g := unfix("\xff\xff\xff\xff\xff\xff\xff\x80", 1, 8); g != (got{e: api.ErrShort}) {
		t.Errorf("Unfix of seven bytes = %v", g)
	}
}

// lists tells lists of numbers from 0 on.
func lists() [][]int {
	all := numbers()
	l := [][]int{nil, {}, {0}, {127}, {128}, {math.MaxInt}, {0, 0, 0}, {1, 300}, {300, 1}, {math.MaxInt, 0, math.MaxInt, 127, 128}}
	for _, n := range []int{2, 126, 127, 128, 129, 300, len(all)} {
		l = append(l, all[len(all)-n:], all[:n])
	}
	return l
}

// P2.4
func TestList(t *testing.T) {
	for _, l := range lists() {
		want := binary.AppendUvarint(nil, uint64(len(l)))
		for _, n := range l {
			want = binary.AppendUvarint(want, uint64(n))
		}
		if s, e := List(l); s != string(want) || e != api.OK {
			t.Errorf("List of %d numbers = %x, %d, want %x", len(l), s, int(e), want)
		}
	}
	for _, bad := range negative() {
		for _, l := range [][]int{{bad}, {bad, 1, 2}, {1, bad, 2}, {1, 2, bad}} {
			if s, e := List(l); s != "" || e != api.ErrArg {
				t.Errorf("List(%v) = %x, %d", l, s, int(e))
			}
		}
	}
}

// P2.4
func TestUnlistOfList(t *testing.T) {
	for _, want := range lists() {
		s, _ := List(want)
		for _, most := range []int{len(want), len(want) + 1, math.MaxInt} {
			l, to, e := Unlist("\x80\x07"+s+"\x80", 2, most)
			if !slices.Equal(l, want) || to != 2+len(s) || e != api.OK {
				t.Errorf("Unlist of %d numbers = %v, %d, %d", len(want), l, to, int(e))
			}
		}
		for _, most := range []int{len(want) - 1, -1, math.MinInt} {
			if l, to, e := Unlist(s, 0, most); len(l) != 0 || to != 0 || e != api.ErrBig {
				t.Errorf("Unlist of %d numbers, at most %d = %v, %d, %d", len(want), most, l, to, int(e))
			}
		}
	}
}

// wantUnlist is P2.4's Unlist, told by what Get must answer.
func wantUnlist(s string, at, most int) (l []int, to int, e api.Errno) {
	first := wantGet(s, at)
	if first.e != api.OK {
		return nil, 0, first.e
	}
	if first.n > most {
		return nil, 0, api.ErrBig
	}
	at = first.to
	for range first.n {
		g := wantGet(s, at)
		if g.e != api.OK {
			return nil, 0, g.e
		}
		l, at = append(l, g.n), g.to
	}
	return l, at, api.OK
}

// P2.4
func TestUnlist(t *testing.T) {
	for _, s := range texts() {
		for at := range len(s) + 1 {
			for _, most := range []int{-1, 0, 1, 2, 127, 128, math.MaxInt} {
				want, wantTo, f := wantUnlist(s, at, most)
				l, to, e := Unlist(s, at, most)
				if !slices.Equal(l, want) || to != wantTo || e != f {
					t.Errorf("Unlist(%x, %d, %d) = %v, %d, %d, want %v, %d, %d", s, at, most, l, to, int(e), want, wantTo, int(f))
				}
			}
		}
	}
}

// P2.4
func TestTheFirstErrorOfUnlist(t *testing.T) {
	great, _ := Put(math.MaxInt)
	for _, x := range []struct {
		s    string
		most int
		want api.Errno
	}{
		{"", -1, api.ErrShort},
		{"\x80", -1, api.ErrShort},
		{"\x80\x00", -1, api.ErrForm},
		{"\x00", -1, api.ErrBig},
		{"\x02\x80\x00", 1, api.ErrBig},
		{"\x02\x80\x00", 2, api.ErrForm},
		{"\x03\x01\x80\x00\x80", 3, api.ErrForm},
		{"\x03\x01\x01", 3, api.ErrShort},
		{"\x03\x01\x01\x80", 3, api.ErrShort},
		{great, math.MaxInt - 1, api.ErrBig},
		{great, math.MaxInt, api.ErrShort},
		{great + "\x01\x80\x00", math.MaxInt, api.ErrForm},
	} {
		if l, to, e := Unlist(x.s, 0, x.most); len(l) != 0 || to != 0 || e != x.want {
			t.Errorf("Unlist(%x, 0, %d) = %v, %d, %d, want %d", x.s, x.most, l, to, int(e), int(x.want))
		}
	}
}

// P2.5
func TestGetOfPut(t *testing.T) {
	ahead := []string{"", "\x00", "\x80", "\xff\xff\xff\xff\xff\xff\xff\xff\xff\xff", "\xac\x02"}
	behind := []string{"", "\x00", "\x01", "\x80\x00", "\xff\xff\xff\xff\xff\xff\xff\xff\xff\xff"}
	for _, n := range numbers() {
		s, _ := Put(n)
		for _, a := range ahead {
			for _, b := range behind {
				if g := get(a+s+b, len(a)); g != (got{n: n, to: len(a) + len(s)}) {
					t.Errorf("Get(%x, %d) = %v, want %d", a+s+b, len(a), g, n)
				}
			}
		}
	}
}

// P2.6
func TestWhatGetTakesIsWhatPutMakes(t *testing.T) {
	for _, s := range texts() {
		for at := range len(s) + 1 {
			n, to, e := Get(s, at)
			if e != api.OK {
				continue
			}
			if back, f := Put(n); back != s[at:to] || f != api.OK {
				t.Errorf("Get(%x, %d) took %d, whose bytes are %x", s, at, n, back)
			}
		}
	}
}

// P2.6
func TestNoNumbersBytesBeginAnotherOnes(t *testing.T) {
	var l []string
	for _, n := range numbers() {
		s, _ := Put(n)
		l = append(l, s)
	}
	// In the order of texts, what begins a text stands right ahead of one that it begins.
	slices.Sort(l)
	for i := 1; i < len(l); i++ {
		if strings.HasPrefix(l[i], l[i-1]) {
			t.Errorf("%x begins %x", l[i-1], l[i])
		}
	}
}

// What is handed in is not changed, its spare room neither.
func TestListsStayAsTheyAre(t *testing.T) {
	room := []int{300, 0, math.MaxInt, 7, 9}
	was := slices.Clone(room)
	for n := range room {
		List(room[:n])
	}
	List([]int{1, -1})
	if !slices.Equal(room, was) {
		t.Errorf("the list became %v", room)
	}
}

// What is handed out is new memory.
func TestListsAreNew(t *testing.T) {
	a, _, _ := Unlist("\x02\x01\x02", 0, 2)
	a[0] = 9
	b, _, _ := Unlist("\x02\x01\x02", 0, 2)
	if !slices.Equal(b, []int{1, 2}) {
		t.Errorf("a second Unlist answers %v", b)
	}
}

func TestExample(t *testing.T) {
	if s, e := Put(300); s != "\xac\x02" || e != api.OK {
		t.Errorf("Put(300) = %x, %d", s, int(e))
	}
	if s, e := Fix(300, 4); s != "\x2c\x01\x00\x00" || e != api.OK {
		t.Errorf("Fix(300, 4) = %x, %d", s, int(e))
	}
}
