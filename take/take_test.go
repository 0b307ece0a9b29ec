package take

import (
	"math"
	"slices"
	"strings"
	"testing"

	"varve/api"
	"varve/varint"
)

// texts tells texts as a taker may meet them: all short ones of bytes at the edges, and numbers and fixed numbers at and beyond their greatest lengths.
func texts() []string {
	all := []string{""}
	for from := 0; len(all[from]) < 3; from++ {
		for _, b := range []string{"\x00", "a", "\x80", "\xff"} {
			all = append(all, all[from]+b)
		}
	}
	for k := 6; k <= 10; k++ {
		high := strings.Repeat("\xff", k)
		all = append(all, high, high+"\x00", high+"\x7f", high+"\x7fab", strings.Repeat("\x00", k)+"\x80")
	}
	return append(all, "\x05\xac\x02\x2c\x01\x00\x00hello!", "\xff\xff\xff\xff\xff\xff\xff\x7f", "\x00\xff\xff\xff\xff\xff\xff\xff\x80a")
}

// sizes tells widths and lengths at the edges, and numbers that are none.
func sizes() []int {
	return []int{math.MinInt, math.MinInt + 1, -9, -1, 0, 1, 2, 3, 4, 5, 7, 8, 9, 64, math.MaxInt - 1, math.MaxInt}
}

// pieces tells one want for each piece that a method takes.
func pieces() []api.Want {
	l := []api.Want{{Kind: api.WantByte}, {Kind: api.WantNum}, {Kind: api.WantRest}, {Kind: api.WantEnd}}
	for _, n := range sizes() {
		l = append(l, api.Want{Kind: api.WantFix, N: n}, api.Want{Kind: api.WantText, N: n})
	}
	return l
}

// strange tells wants of kinds that there are not, and wants whose N plays no part.
func strange() []api.Want {
	var l []api.Want
	for _, kind := range []int{math.MinInt, -1, 0, 7, 8, 255, 257, math.MaxInt} {
		l = append(l, api.Want{Kind: kind}, api.Want{Kind: kind, N: 1})
	}
	for _, kind := range []int{api.WantByte, api.WantNum, api.WantRest, api.WantEnd} {
		for _, n := range []int{math.MinInt, -1, 2, math.MaxInt} {
			l = append(l, api.Want{Kind: kind, N: n})
		}
	}
	return l
}

// few tells wants that are few enough to run each in each order.
func few() []api.Want {
	return []api.Want{
		{Kind: api.WantByte}, {Kind: api.WantNum}, {Kind: api.WantFix, N: 2}, {Kind: api.WantFix, N: 8}, {Kind: api.WantFix},
		{Kind: api.WantText}, {Kind: api.WantText, N: 2}, {Kind: api.WantText, N: -1}, {Kind: api.WantRest}, {Kind: api.WantEnd}, {Kind: 7},
	}
}

// orders tells all rows of up to so many of the few wants.
func orders(most int) [][]api.Want {
	all := [][]api.Want{nil}
	for from := 0; from < len(all) && len(all[from]) < most; from++ {
		for _, w := range few() {
			all = append(all, append(slices.Clone(all[from]), w))
		}
	}
	return all
}

// wantPiece is what is taken from the beginning of a text, word by word: what was got, of how many bytes, or the fault.
func wantPiece(left string, w api.Want) (g api.Got, size int, e api.Errno) {
	switch w.Kind {
	case api.WantByte:
		if left == "" {
			return api.Got{}, 0, api.ErrShort
		}
		return api.Got{N: int(left[0])}, 1, api.OK
	case api.WantNum:
		n, to, f := varint.Get(left, 0)
		return api.Got{N: n}, to, f
	case api.WantFix:
		n, to, f := varint.Unfix(left, 0, w.N)
		return api.Got{N: n}, to, f
	case api.WantText:
		if w.N < 0 {
			return api.Got{}, 0, api.ErrArg
		}
		if len(left) < w.N {
			return api.Got{}, 0, api.ErrShort
		}
		return api.Got{S: left[:w.N]}, w.N, api.OK
	case api.WantRest:
		return api.Got{S: left}, len(left), api.OK
	case api.WantEnd:
		if left != "" {
			return api.Got{}, 0, api.ErrRest
		}
		return api.Got{}, 0, api.OK
	}
	return api.Got{}, 0, api.ErrArg
}

// ran is what Run answers.
type ran struct {
	l  []api.Got
	at int
	e  api.Errno
}

func run(s string, wants ...api.Want) ran {
	l, at, e := Run(s, wants...)
	return ran{l, at, e}
}

func (r ran) same(o ran) bool { return slices.Equal(r.l, o.l) && r.at == o.at && r.e == o.e }

// wantRun is P3.2, word by word.
func wantRun(s string, wants ...api.Want) ran {
	var r ran
	for _, w := range wants {
		g, size, e := wantPiece(s[r.at:], w)
		if e != api.OK {
			r.e = e
			break
		}
		r.l, r.at = append(r.l, g), r.at+size
	}
	return r
}

// method calls the method that takes a piece.
func method(k *Taker, w api.Want) (g api.Got) {
	switch w.Kind {
	case api.WantByte:
		g.N = k.Byte()
	case api.WantNum:
		g.N = k.Num()
	case api.WantFix:
		g.N = k.Fix(w.N)
	case api.WantText:
		g.S = k.Text(w.N)
	case api.WantRest:
		g.S = k.Rest()
	case api.WantEnd:
		k.End()
	}
	return g
}

// caught calls the method that takes a piece, and tells what it gave, or what it panicked with.
func caught(k *Taker, w api.Want) (g api.Got, thrown any) {
	defer func() { thrown = recover() }()
	return method(k, w), nil
}

// holds asks a taker, which has so much left at a place, for a piece, and tells whether it went behind it.
func holds(t *testing.T, k *Taker, left string, at int, w api.Want) bool {
	t.Helper()
	want, size, f := wantPiece(left, w)
	var wantThrown any
	if f != api.OK {
		wantThrown = Fault{Err: f, At: at}
	}
	g, thrown := caught(k, w)
	if g != want || thrown != wantThrown {
		t.Errorf("%v of %x at %d gave %v, panicked with %v, want %v, %v", w, left, at, g, thrown, want, wantThrown)
	}
	if k.At() != at+size || k.Left() != len(left)-size {
		t.Errorf("behind %v of %x at %d: At %d, Left %d, want %d, %d", w, left, at, k.At(), k.Left(), at+size, len(left)-size)
	}
	return f == api.OK
}

// P3.1
func TestATakerBeginsAtTheBeginning(t *testing.T) {
	for _, s := range texts() {
		k := New(s)
		for range 2 {
			if k.At() != 0 || k.Left() != len(s) {
				t.Errorf("New(%x): At %d, Left %d", s, k.At(), k.Left())
			}
		}
		if got := k.Rest(); got != s {
			t.Errorf("New(%x) has %x", s, got)
		}
	}
}

// P3.1
func TestEachPieceAtEachPlace(t *testing.T) {
	for _, s := range texts() {
		for at := range len(s) + 1 {
			for _, w := range pieces() {
				k := New(s)
				if got := k.Text(at); got != s[:at] {
					t.Errorf("the first %d of %x are %x", at, s, got)
				}
				if holds(t, k, s[at:], at, w) {
					continue
				}
				// What had a fault has it again, and what is left is left still.
				holds(t, k, s[at:], at, w)
				holds(t, k, s[at:], at, api.Want{Kind: api.WantRest})
			}
		}
	}
}

// P3.1
func TestPiecesOneBehindTheOther(t *testing.T) {
	for _, s := range texts() {
		for _, wants := range orders(3) {
			k, at := New(s), 0
			for _, w := range wants {
				// A row goes on behind a fault as if what had it had not been asked for.
				if w.Kind != 7 && holds(t, k, s[at:], at, w) {
					at = k.At()
				}
			}
		}
	}
}

// P3.1
func TestTheFaults(t *testing.T) {
	for _, x := range []struct {
		name string
		s    string
		take func(k *Taker)
		want api.Errno
	}{
		{"a byte of none", "", func(k *Taker) { k.Byte() }, api.ErrShort},
		{"a text of more", "ab", func(k *Taker) { k.Text(3) }, api.ErrShort},
		{"a text of far more", "ab", func(k *Taker) { k.Text(math.MaxInt) }, api.ErrShort},
		{"a text of less than none", "ab", func(k *Taker) { k.Text(-1) }, api.ErrArg},
		{"a text of less than none, of none", "", func(k *Taker) { k.Text(math.MinInt) }, api.ErrArg},
		{"a number of none", "", func(k *Taker) { k.Num() }, api.ErrShort},
		{"a number's beginning", "\x80", func(k *Taker) { k.Num() }, api.ErrShort},
		{"a number with a nought too much", "\x80\x00", func(k *Taker) { k.Num() }, api.ErrForm},
		{"a number too long", strings.Repeat("\xff", 9), func(k *Taker) { k.Num() }, api.ErrForm},
		{"a fixed number of more", "ab", func(k *Taker) { k.Fix(3) }, api.ErrShort},
		{"a fixed number of no bytes", "ab", func(k *Taker) { k.Fix(0) }, api.ErrArg},
		{"a fixed number of nine bytes, of none", "", func(k *Taker) { k.Fix(9) }, api.ErrArg},
		{"a fixed number too great", strings.Repeat("\xff", 8), func(k *Taker) { k.Fix(8) }, api.ErrForm},
		{"an end ahead of a byte", "\x00", func(k *Taker) { k.End() }, api.ErrRest},
	} {
		for _, ahead := range []string{"", "\x80", "ahead"} {
			k := New(ahead + x.s)
			k.Text(len(ahead))
			func() {
				defer func() {
					if thrown := recover(); thrown != (Fault{Err: x.want, At: len(ahead)}) {
						t.Errorf("%s behind %x panics with %v, want %d", x.name, ahead, thrown, int(x.want))
					}
				}()
				x.take(k)
			}()
			if k.At() != len(ahead) || k.Rest() != x.s {
				t.Errorf("%s behind %x moved the taker", x.name, ahead)
			}
		}
	}
}

// P3.1
func TestATakerOfNothing(t *testing.T) {
	var none *Taker
	for _, w := range pieces() {
		for range 2 {
			holds(t, none, "", 0, w)
			holds(t, &Taker{}, "", 0, w)
			holds(t, New(""), "", 0, w)
		}
	}
	if none.At() != 0 || none.Left() != 0 {
		t.Errorf("a nil taker: At %d, Left %d", none.At(), none.Left())
	}
}

// P3.1
func TestTakersAreApart(t *testing.T) {
	a, b := New("abc"), New("abc")
	a.Text(2)
	if b.At() != 0 || b.Byte() != 'a' || a.At() != 2 || a.Left() != 1 {
		t.Errorf("one taker moves the other: %d, %d", a.At(), b.At())
	}
}

// P3.2
func TestRun(t *testing.T) {
	for _, s := range texts() {
		for _, wants := range orders(3) {
			if r, want := run(s, wants...), wantRun(s, wants...); !r.same(want) {
				t.Errorf("Run(%x, %v) = %v, want %v", s, wants, r, want)
			}
		}
	}
}

// P3.2
func TestRunOfOneWant(t *testing.T) {
	for _, s := range texts() {
		for _, w := range slices.Concat(pieces(), strange()) {
			for _, wants := range [][]api.Want{{w}, {{Kind: api.WantText, N: 1}, w}} {
				if r, want := run(s, wants...), wantRun(s, wants...); !r.same(want) {
					t.Errorf("Run(%x, %v) = %v, want %v", s, wants, r, want)
				}
			}
		}
	}
}

// P3.2
func TestWhatRunTells(t *testing.T) {
	b, num, rest, end := api.Want{Kind: api.WantByte}, api.Want{Kind: api.WantNum}, api.Want{Kind: api.WantRest}, api.Want{Kind: api.WantEnd}
	fix := func(n int) api.Want { return api.Want{Kind: api.WantFix, N: n} }
	text := func(n int) api.Want { return api.Want{Kind: api.WantText, N: n} }
	for _, x := range []struct {
		s     string
		wants []api.Want
		want  ran
	}{
		{"", nil, ran{}},
		{"abc", nil, ran{}},
		{"", []api.Want{end, rest, text(0), end}, ran{l: make([]api.Got, 4)}},
		{"\x02abc", []api.Want{b, text(2), rest}, ran{l: []api.Got{{N: 2}, {S: "ab"}, {S: "c"}}, at: 4}},
		{"\x02abc", []api.Want{b, text(2), rest, rest, end}, ran{l: []api.Got{{N: 2}, {S: "ab"}, {S: "c"}, {}, {}}, at: 4}},
		{"\x02abc", []api.Want{b, text(2), end, rest}, ran{l: []api.Got{{N: 2}, {S: "ab"}}, at: 3, e: api.ErrRest}},
		{"\x02abc", []api.Want{b, text(4), b}, ran{l: []api.Got{{N: 2}}, at: 1, e: api.ErrShort}},
		{"\xff\xac\x02\x2c\x01", []api.Want{b, num, fix(2), end}, ran{l: []api.Got{{N: 255}, {N: 300}, {N: 300}, {}}, at: 5}},
		{"\xff\xac\x02\x2c\x01", []api.Want{b, num, fix(3)}, ran{l: []api.Got{{N: 255}, {N: 300}}, at: 3, e: api.ErrShort}},
		{"\x80\x00", []api.Want{num, b}, ran{e: api.ErrForm}},
		{"ab", []api.Want{b, {}, b}, ran{l: []api.Got{{N: 'a'}}, at: 1, e: api.ErrArg}},
		{"", []api.Want{{Kind: 7}}, ran{e: api.ErrArg}},
	} {
		if r := run(x.s, x.wants...); !r.same(x.want) {
			t.Errorf("Run(%x, %v) = %v, want %v", x.s, x.wants, r, x.want)
		}
	}
}

// P3.3
func TestRunInTwoParts(t *testing.T) {
	for _, s := range texts() {
		for _, wants := range orders(3) {
			whole := run(s, wants...)
			for cut := range len(wants) + 1 {
				parts := run(s, wants[:cut]...)
				// Behind a fault there is no second part: what is wanted at once ends there too.
				if parts.e == api.OK {
					second := run(s[parts.at:], wants[cut:]...)
					parts = ran{slices.Concat(parts.l, second.l), parts.at + second.at, second.e}
				}
				if !parts.same(whole) {
					t.Errorf("Run(%x, %v) cut at %d = %v, at once %v", s, wants, cut, parts, whole)
				}
			}
		}
	}
}

// bytesOf makes the bytes anew of what was got.
func bytesOf(t *testing.T, w api.Want, g api.Got) string {
	t.Helper()
	switch w.Kind {
	case api.WantByte:
		return string([]byte{byte(g.N)})
	case api.WantNum:
		s, e := varint.Put(g.N)
		if e != api.OK {
			t.Errorf("%d was taken as a number", g.N)
		}
		return s
	case api.WantFix:
		s, e := varint.Fix(g.N, w.N)
		if e != api.OK {
			t.Errorf("%d was taken as a fixed number of %d bytes", g.N, w.N)
		}
		return s
	}
	return g.S
}

// P3.4
func TestWhatWasTakenStandsAheadOfThePlace(t *testing.T) {
	for _, s := range texts() {
		for _, wants := range orders(3) {
			r := run(s, wants...)
			ahead := ""
			for i, g := range r.l {
				ahead += bytesOf(t, wants[i], g)
			}
			if ahead != s[:r.at] {
				t.Errorf("Run(%x, %v) took %x, and is at %d", s, wants, ahead, r.at)
			}
		}
	}
}

// P3.4
func TestWhatIsBehindAFaultPlaysNoPart(t *testing.T) {
	for _, s := range texts() {
		for _, wants := range orders(2) {
			r := run(s, wants...)
			if r.e == api.OK {
				continue
			}
			for _, behind := range few() {
				if got := run(s, append(slices.Clone(wants), behind)...); !got.same(r) {
					t.Errorf("Run(%x, %v) = %v, and %v with %v behind", s, wants, r, got, behind)
				}
			}
			// More bytes behind end a fault of too few, make the rest longer, and stand ahead of an end: of these they do play a part.
			if r.e == api.ErrShort || slices.ContainsFunc(wants[:len(r.l)], func(w api.Want) bool { return w.Kind >= api.WantRest }) {
				continue
			}
			for _, more := range []string{"\x00", "\x80", "abcdefgh"} {
				if got := run(s+more, wants...); !got.same(r) {
					t.Errorf("Run(%x, %v) = %v, and %v with %x behind", s, wants, r, got, more)
				}
			}
		}
	}
}

// What is handed in is not changed, its spare room neither.
func TestWantsStayAsTheyAre(t *testing.T) {
	room := few()
	was := slices.Clone(room)
	for n := range room {
		Run("\x02abc", room[:n]...)
	}
	if !slices.Equal(room, was) {
		t.Errorf("the wants became %v", room)
	}
}

// What is handed out is new memory.
func TestWhatWasGotIsNew(t *testing.T) {
	wants := []api.Want{{Kind: api.WantByte}, {Kind: api.WantText, N: 2}}
	first := run("\x02abc", wants...)
	first.l[0], first.l[1] = api.Got{N: 9}, api.Got{S: "z"}
	if second := run("\x02abc", wants...); !second.same(ran{l: []api.Got{{N: 2}, {S: "ab"}}, at: 3}) {
		t.Errorf("a second Run answers %v", second)
	}
}

func TestExample(t *testing.T) {
	k := New("\x02\x61\x62\x63")
	if n, s, rest := k.Byte(), k.Text(2), k.Rest(); n != 2 || s != "ab" || rest != "c" {
		t.Errorf("example 1 of the chapter: %d, %q, %q", n, s, rest)
	}
}
