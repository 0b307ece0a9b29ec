package head

import (
	"encoding/binary"
	"math"
	"math/big"
	"math/rand"
	"slices"
	"strings"
	"testing"

	"varve/api"
	"varve/block"
	"varve/frame"
)

// The tests hold head against the chapter's words, told here once more: sums by big numbers, numbers' bytes by the library's own.

// sum tells whole numbers' sum, which may leave int.
func sum(l ...int) *big.Int {
	all := new(big.Int)
	for _, n := range l {
		all.Add(all, big.NewInt(int64(n)))
	}
	return all
}

// same and over tell whether a number is the sum of others, or above it.
func same(n int, l ...int) bool { return sum(n).Cmp(sum(l...)) == 0 }
func over(n int, l ...int) bool { return sum(n).Cmp(sum(l...)) > 0 }

// uvarints tells the bytes of numbers.
func uvarints(l ...int) string {
	var b []byte
	for _, n := range l {
		b = binary.AppendUvarint(b, uint64(n))
	}
	return string(b)
}

// wantNum tells the number that a text begins with, and what stands behind it, by chapter 2's words.
func wantNum(s string) (n int, rest string, e api.Errno) {
	at := strings.IndexFunc(s, func(r rune) bool { return r < 128 })
	switch {
	case at < 0 && len(s) <= 8:
		return 0, "", api.ErrShort
	case at < 0 || at >= 9 || at > 0 && s[at] == 0:
		return 0, "", api.ErrForm
	}
	u, _ := binary.Uvarint([]byte(s[:at+1]))
	return int(u), s[at+1:], api.OK
}

// wantNums tells the first n numbers of a text.
func wantNums(s string, n int) (l []int, rest string, e api.Errno) {
	for range n {
		var one int
		if one, s, e = wantNum(s); e != api.OK {
			return nil, "", e
		}
		l = append(l, one)
	}
	return l, s, api.OK
}

// wantCheck is P21.1 of Check.
func wantCheck(h api.Head) api.Errno {
	if h.Id <= 0 || h.Id >= 1000000 || h.Gen <= 0 || h.Gen >= 1000000 || h.First <= 0 || h.First > 1000000000 {
		return api.ErrHead
	}
	return api.OK
}

// wantGet is P21.1 of Get.
func wantGet(body string) (api.Head, api.Errno) {
	l, rest, e := wantNums(body, 3)
	switch {
	case e != api.OK:
		return api.Head{}, e
	case rest != "":
		return api.Head{}, api.ErrRest
	case wantCheck(api.Head{Id: l[0], Gen: l[1], First: l[2]}) != api.OK:
		return api.Head{}, api.ErrHead
	}
	return api.Head{Id: l[0], Gen: l[1], First: l[2]}, api.OK
}

// alone tells whether a block may stand in a row, whatever is ahead of it.
func alone(m api.Meta) bool {
	return m.At >= 0 && m.At <= 1000000 && m.Size >= 10 && m.Size <= 60009 && m.Raw >= 1 && m.Raw <= 20000 &&
		m.Count >= 1 && m.Count <= m.Raw && m.First >= 1 && !over(m.First, 1000000001, -m.Count) &&
		m.Early >= 0 && m.Late >= m.Early && m.Late <= 1000000000
}

// wantRow is P21.2 of Blocks.
func wantRow(l []api.Meta) api.Errno {
	for i, m := range l {
		if !alone(m) || i >= 1000 {
			return api.ErrFoot
		}
		if i == 0 {
			continue
		}
		if p := l[i-1]; !same(m.At, p.At, p.Size) || !same(m.First, p.First, p.Count) || m.Early < p.Late {
			return api.ErrFoot
		}
	}
	return api.OK
}

// footOf tells blocks' bytes, be they a row or not. No Late is below its Early.
func footOf(l []api.Meta) string {
	s := uvarints(len(l))
	for _, m := range l {
		s += uvarints(m.At, m.Size, m.Raw, m.Count, m.First, m.Early, m.Late-m.Early)
	}
	return s
}

// wantFoot is P21.2 of GetFoot.
func wantFoot(body string) ([]api.Meta, api.Errno) {
	n, rest, e := wantNum(body)
	if e != api.OK {
		return nil, e
	}
	if n > 1000 {
		return nil, api.ErrBig
	}
	all, rest, e := wantNums(rest, 7*n)
	if e != api.OK {
		return nil, e
	}
	if rest != "" {
		return nil, api.ErrRest
	}
	var l []api.Meta
	for x := range slices.Chunk(all, 7) {
		if over(x[6], math.MaxInt, -x[5]) {
			return nil, api.ErrFoot
		}
		l = append(l, api.Meta{At: x[0], Size: x[1], Raw: x[2], Count: x[3], First: x[4], Early: x[5], Late: x[5] + x[6]})
	}
	if wantRow(l) != api.OK {
		return nil, api.ErrFoot
	}
	return l, api.OK
}

// few tells the first of some blocks, for a message.
func few(l []api.Meta) []api.Meta { return l[:min(len(l), 4)] }

// holdHead holds Check and Put of a header against the words, and Get of its bytes, where it has some.
func holdHead(t *testing.T, h api.Head) {
	t.Helper()
	want := wantCheck(h)
	if e := Check(h); e != want {
		t.Fatalf("Check of %v: %d, want %d", h, int(e), int(want))
	}
	bytes := ""
	if want == api.OK {
		bytes = uvarints(h.Id, h.Gen, h.First)
	}
	if s, e := Put(h); s != bytes || e != want {
		t.Fatalf("Put of %v: %x %d, want %x %d", h, s, int(e), bytes, int(want))
	}
	if h.Id >= 0 && h.Gen >= 0 && h.First >= 0 {
		holdGet(t, uvarints(h.Id, h.Gen, h.First))
	}
}

// holdGet holds Get against the words, and what it takes against what is put.
func holdGet(t *testing.T, s string) {
	t.Helper()
	want, fault := wantGet(s)
	h, e := Get(s)
	if h != want || e != fault {
		t.Fatalf("Get of %x: %v %d, want %v %d", s, h, int(e), want, int(fault))
	}
	if e == api.OK {
		if back, e := Put(h); back != s || e != api.OK {
			t.Fatalf("Put of Get of %x: %x %d", s, back, int(e))
		}
	}
}

// holdFoot holds GetFoot against the words, and what it takes against what is put.
func holdFoot(t *testing.T, s string) {
	t.Helper()
	want, fault := wantFoot(s)
	l, e := GetFoot(s)
	if !slices.Equal(l, want) || e != fault {
		t.Fatalf("GetFoot of %.80x: %v %d, want %v %d", s, few(l), int(e), few(want), int(fault))
	}
	if e == api.OK {
		if back, e := PutFoot(l); back != s || e != api.OK {
			t.Fatalf("PutFoot of GetFoot of %.80x: %.80x %d", s, back, int(e))
		}
	}
}

// mayHead is a header that may be; its frame has 15 bytes.
var mayHead = api.Head{Id: 3, Gen: 200, First: 70000}

// holdRow holds each call on blocks against the words.
func holdRow(t *testing.T, l []api.Meta) {
	t.Helper()
	want := wantRow(l)
	if e := Blocks(l); e != want {
		t.Fatalf("Blocks of %d: %v: %d, want %d", len(l), few(l), int(e), int(want))
	}
	bytes, next, end := "", mayHead.First, 0
	if want == api.OK {
		bytes, end = footOf(l), 15
		if len(l) > 0 {
			m := l[len(l)-1]
			next, end = m.First+m.Count, m.At+m.Size
		}
	}
	if s, e := PutFoot(l); s != bytes || e != want {
		t.Fatalf("PutFoot of %d: %v: %.80x %d, want %.80x %d", len(l), few(l), s, int(e), bytes, int(want))
	}
	if n := Next(mayHead, l); n != next {
		t.Fatalf("Next of %d: %v: %d, want %d", len(l), few(l), n, next)
	}
	if n, e := End(mayHead, l); n != end || e != want {
		t.Fatalf("End of %d: %v: %d %d, want %d %d", len(l), few(l), n, int(e), end, int(want))
	}
	if !slices.ContainsFunc(l, func(m api.Meta) bool {
		return min(m.At, m.Size, m.Raw, m.Count, m.First, m.Early) < 0 || m.Late < m.Early
	}) {
		holdFoot(t, footOf(l))
	}
}

// step tells what is no number of one block alone: how many bytes and records it has, and how much later it begins and ends.
type step struct{ size, raw, count, wait, last int }

// rowOf tells the row of steps from a place, a number and a time on.
func rowOf(at, first, tick int, steps ...step) []api.Meta {
	var l []api.Meta
	for _, x := range steps {
		tick += x.wait
		l = append(l, api.Meta{At: at, Size: x.size, Raw: x.raw, Count: x.count, First: first, Early: tick, Late: tick + x.last})
		at, first, tick = at+x.size, first+x.count, tick+x.last
	}
	return l
}

// many tells n small steps.
func many(n int) []step {
	var l []step
	for i := range n {
		l = append(l, step{size: 10 + i%40, raw: 5 + i%300, count: 1 + i%5, wait: i % 3, last: i % 7})
	}
	return l
}

// rows tells rows of all kinds, at the limits too.
func rows() [][]api.Meta {
	least := step{size: 10, raw: 1, count: 1}
	most := step{size: 60009, raw: 20000, count: 20000, last: 100}
	return [][]api.Meta{
		nil,
		{},
		rowOf(0, 1, 0, least),
		rowOf(0, 1, 0, least, least, least),
		rowOf(13, 300, 1, step{30, 10, 2, 0, 4}, step{20, 5, 1, 0, 0}),
		rowOf(1000000, 1, 0, least),
		rowOf(1000000, 1000000000, 1000000000, least),
		rowOf(1000000, 999980001, 999999900, most),
		rowOf(999990, 1, 0, least, least),
		rowOf(999991-60009, 1, 0, most, step{size: 9, raw: 1, count: 1}),
		rowOf(1000000-60009, 5, 0, most, most),
		rowOf(0, 1000000000-20000, 1000000000-200, most, least),
		rowOf(0, 999999999, 1000000000, least, least),
		rowOf(12, 1, 0, step{10, 1, 1, 0, 1000000000}, step{11, 2, 2, 0, 0}, step{12, 3, 3, 0, 0}),
		rowOf(12, 1, 500, step{500, 300, 7, 0, 2}, step{400, 200, 200, 1, 0}, step{300, 100, 50, 0, 9}, step{200, 100, 1, 7, 0}),
		rowOf(15, 1, 3, many(40)...),
		rowOf(15, 70000, 3, many(999)...),
		rowOf(15, 70000, 3, many(1000)...),
		rowOf(15, 70000, 3, many(1001)...),
		rowOf(15, 70000, 3, many(1200)...),
		// One beyond a limit.
		rowOf(1000001, 1, 0, least),
		rowOf(999991, 1, 0, least, least),
		rowOf(0, 1000000001, 0, least),
		rowOf(0, 999980002, 0, most),
		rowOf(0, 1000000000, 0, least, least),
		rowOf(0, 1, 1000000001, least),
		rowOf(0, 1, 999999901, most),
		rowOf(0, 1, 0, step{60010, 20000, 1, 0, 0}),
		rowOf(0, 1, 0, step{60009, 20001, 1, 0, 0}),
		rowOf(0, 1, 0, step{10, 1, 2, 0, 0}),
	}
}

// edges tells numbers at the limits of a block's, and at the ends of int.
func edges() []int {
	l := []int{math.MinInt, math.MinInt + 1, -1000000000, math.MaxInt - 20000, math.MaxInt - 1, math.MaxInt}
	for _, n := range []int{0, 10, 1000, 20000, 60009, 1000000, 1000000000, 1 << 31, 1 << 32} {
		l = append(l, n-1, n, n+1)
	}
	return l
}

// field tells where a block's number stands, by its place among them.
func field(m *api.Meta, i int) *int {
	return [...]*int{&m.At, &m.Size, &m.Raw, &m.Count, &m.First, &m.Early, &m.Late}[i]
}

// spoils tells what a block's number is to be changed to: the edges, what stands next to the numbers of its row, and next to their sums.
func spoils(l []api.Meta) []int {
	all := edges()
	for _, m := range l {
		for i := range 7 {
			n := *field(&m, i)
			all = append(all, n-1, n, n+1)
		}
		for _, n := range []int{m.At + m.Size, m.First + m.Count, 1000000001 - m.Count, 1000000001 - m.First} {
			all = append(all, n-1, n, n+1)
		}
	}
	slices.Sort(all)
	return slices.Compact(all)
}

// P21.1 (Check, Put, Get): the examples.
func TestExamples(t *testing.T) {
	if s, e := Put(api.Head{Id: 1, Gen: 1, First: 300}); s != "\x01\x01\xac\x02" || e != api.OK {
		t.Errorf("%x %d", s, int(e))
	}
	if h, e := Get("\x01\x01\xac\x02"); h != (api.Head{Id: 1, Gen: 1, First: 300}) || e != api.OK {
		t.Error(h, int(e))
	}
	if h, e := Get("\xbf\x84\x3d\xbf\x84\x3d\x80\x94\xeb\xdc\x03"); h != (api.Head{Id: 999999, Gen: 999999, First: 1000000000}) || e != api.OK {
		t.Error(h, int(e))
	}
}

// P21.1 (Check, Put, Get): all three numbers at and around their limits.
func TestHeaders(t *testing.T) {
	l := append(edges(), 2, 300, 999998, 999999999)
	for _, id := range l {
		for _, gen := range l {
			for _, first := range l {
				holdHead(t, api.Head{Id: id, Gen: gen, First: first})
			}
		}
	}
}

// P21.1 (Check, Put, Get): the faults of the bytes, and their order.
func TestFaultsOfHeader(t *testing.T) {
	long := strings.Repeat("\x80", 8)
	for s, want := range map[string]api.Errno{
		"":                                     api.ErrShort,
		"\x01":                                 api.ErrShort,
		"\x01\x01":                             api.ErrShort,
		"\x00\x00":                             api.ErrShort,
		"\x01\x01\x81":                         api.ErrShort,
		"\x01\x01\x01\x01":                     api.ErrRest,
		"\x00\x00\x00\x00":                     api.ErrRest,
		"\x01\x01\x81\x00":                     api.ErrForm,
		"\x81\x00\x01":                         api.ErrForm,
		"\x01\x81\x00":                         api.ErrForm,
		"\x00\x80\x00\x01\x01":                 api.ErrForm,
		"\x01\x01\x80\x00\x01":                 api.ErrForm,
		"\x01" + long + "\x80":                 api.ErrForm,
		"\x01" + long:                          api.ErrShort,
		"\x01\x01" + long + "\x01":             api.ErrHead,
		"\x01\x01" + long + "\x01\x01":         api.ErrRest,
		"\x00\x01\x01":                         api.ErrHead,
		"\x01\x00\x01":                         api.ErrHead,
		"\x01\x01\x00":                         api.ErrHead,
		"\xc0\x84\x3d\x01\x01":                 api.ErrHead,
		"\x01\xc0\x84\x3d\x01":                 api.ErrHead,
		"\x01\x01\x81\x94\xeb\xdc\x03":         api.ErrHead,
		"\xbf\x84\x3d\x01\x01":                 api.OK,
		"\x01\xbf\x84\x3d\x01":                 api.OK,
		"\x01\x01\x80\x94\xeb\xdc\x03":         api.OK,
		"\x01\x01\x80\x94\xeb\xdc\x03\x80":     api.ErrRest,
		strings.Repeat("\xff", 8) + "\x7f\x01": api.ErrShort,
	} {
		if _, e := Get(s); e != want {
			t.Errorf("Get of %x: %d, want %d", s, int(e), int(want))
		}
		holdGet(t, s)
	}
}

// texts calls with all texts of at most n bytes of some.
func texts(n int, some string, call func(s string)) {
	call("")
	if n == 0 {
		return
	}
	for i := range len(some) {
		texts(n-1, some, func(s string) { call(some[i:i+1] + s) })
	}
}

// P21.1 (Check, Put, Get), P21.2 (Blocks, PutFoot, GetFoot): whatever the bytes are.
func TestAllShortBytes(t *testing.T) {
	texts(6, "\x00\x01\x02\x7f\x80\xff", func(s string) {
		holdGet(t, s)
		holdFoot(t, s)
	})
	// Of a block that may be with bytes all around.
	whole := uvarints(1, 13, 30, 10, 2, 300, 1, 4)
	for i := range len(whole) + 1 {
		holdFoot(t, whole[:i])
		for b := range 256 {
			holdFoot(t, whole[:i]+string([]byte{byte(b)})+whole[i:])
			if i < len(whole) {
				holdFoot(t, whole[:i]+string([]byte{byte(b)})+whole[i+1:])
			}
		}
	}
}

// P21.2 (Blocks, PutFoot, GetFoot), P21.3 (Next, End): rows, and the least and the greatest numbers of them.
func TestRows(t *testing.T) {
	good := 0
	for _, l := range rows() {
		holdRow(t, l)
		if wantRow(l) == api.OK {
			good++
		}
	}
	if good != 17 || len(rows()) != 30 {
		t.Error(good, "rows of", len(rows()))
	}
}

// P21.2 (Blocks, PutFoot, GetFoot), P21.3 (Next, End): each number of each block changed, alone and with any other one of the row.
func TestSpoiltRows(t *testing.T) {
	for _, row := range rows() {
		if len(row) > 4 {
			continue
		}
		values := spoils(row)
		for i := range 7 * len(row) {
			for _, a := range values {
				one := slices.Clone(row)
				*field(&one[i/7], i%7) = a
				holdRow(t, one)
				if len(row) > 2 {
					continue
				}
				for j := range i {
					for k := 0; k < len(values); k += 1 + (i+j)%3 {
						two := slices.Clone(one)
						*field(&two[j/7], j%7) = values[k]
						holdRow(t, two)
					}
				}
			}
		}
	}
}

// P21.2 (Blocks, PutFoot, GetFoot): also the last blocks of long rows are looked at, and each of a row is held against the one ahead.
func TestSpoiltLongRows(t *testing.T) {
	for _, n := range []int{40, 1000} {
		row := rowOf(15, 70000, 3, many(n)...)
		for _, at := range []int{0, 1, n / 2, n - 2, n - 1} {
			for i := range 7 {
				for _, by := range []int{-1, 1} {
					l := slices.Clone(row)
					*field(&l[at], i) += by
					holdRow(t, l)
				}
			}
			holdRow(t, slices.Delete(slices.Clone(row), at, at+1))
			holdRow(t, slices.Insert(slices.Clone(row), at, row[at]))
		}
		l := slices.Clone(row)
		slices.Reverse(l)
		holdRow(t, l)
	}
}

// P21.2 (Blocks, PutFoot, GetFoot): the faults of the bytes, and their order.
func TestFaultsOfFooter(t *testing.T) {
	long := strings.Repeat("\xff", 8) + "\x7f"
	one := uvarints(13, 30, 10, 2, 300, 1, 4)
	for s, want := range map[string]api.Errno{
		"":                                 api.ErrShort,
		"\x80":                             api.ErrShort,
		"\x80\x00":                         api.ErrForm,
		"\x00":                             api.OK,
		"\x00\x00":                         api.ErrRest,
		"\x00\x80":                         api.ErrRest,
		"\x01":                             api.ErrShort,
		"\xe8\x07":                         api.ErrShort,
		"\xe9\x07":                         api.ErrBig,
		"\xe9\x07\x80\x00":                 api.ErrBig,
		long:                               api.ErrBig,
		long + one:                         api.ErrBig,
		"\x01" + one:                       api.OK,
		"\x01" + one + "\x00":              api.ErrRest,
		"\x01" + one + one:                 api.ErrRest,
		"\x02" + one + one:                 api.ErrFoot,
		"\x02" + one:                       api.ErrShort,
		"\x02" + one + "\x80\x00":          api.ErrForm,
		"\x02" + one + "\x80":              api.ErrShort,
		"\x01\x00\x00":                     api.ErrShort,
		"\x01\x00\x00\x00\x00\x00\x00":     api.ErrShort,
		"\x01" + strings.Repeat("\x00", 7): api.ErrFoot,
		"\x01" + strings.Repeat("\x00", 8): api.ErrRest,
		// A Late above the greatest int.
		"\x01" + uvarints(13, 30, 10, 2, 300, 1, math.MaxInt):                    api.ErrFoot,
		"\x01" + uvarints(13, 30, 10, 2, 300, math.MaxInt, math.MaxInt):          api.ErrFoot,
		"\x01" + uvarints(13, 30, 10, 2, 300, 1000000000, math.MaxInt-999999999): api.ErrFoot,
		"\x01" + uvarints(13, 30, 10, 2, 300, 1, math.MaxInt) + "\x00":           api.ErrRest,
		"\x01" + uvarints(13, 30, 10, 2, 300, 1, 999999999):                      api.OK,
		"\x01" + uvarints(13, 30, 10, 2, 300, 1, 1000000000):                     api.ErrFoot,
		"\x02" + uvarints(13, 30, 10, 2, 300, 1, math.MaxInt) + one:              api.ErrFoot,
		"\x02" + uvarints(13, 30, 10, 2, 300, 1, math.MaxInt) + "\x2b\x80\x00":   api.ErrForm,
		"\x02" + uvarints(math.MaxInt, 10, 10, 2, 300, 1, 0) + one:               api.ErrFoot,
		"\x02" + uvarints(13, 30, 10, 2, math.MaxInt, 1, 0) + one + "\x00":       api.ErrRest,
	} {
		if _, e := GetFoot(s); e != want {
			t.Errorf("GetFoot of %x: %d, want %d", s, int(e), int(want))
		}
		holdFoot(t, s)
	}
}

// P21.2 (Blocks, PutFoot, GetFoot): bytes that are cut anywhere, or have more behind them.
func TestCutFooters(t *testing.T) {
	for _, row := range rows() {
		if len(row) > 40 {
			continue
		}
		s := footOf(row)
		for i := range len(s) {
			holdFoot(t, s[:i])
		}
		for _, more := range []string{"\x00", "\x80", "\x01", s} {
			holdFoot(t, s+more)
		}
	}
}

// P21.3 (Next, End): headers of all kinds, with and without blocks.
func TestNextAndEnd(t *testing.T) {
	two := rowOf(13, 300, 1, step{30, 10, 2, 0, 4}, step{20, 5, 1, 0, 0})
	broken := slices.Clone(two)
	broken[1].At++
	for _, id := range edges() {
		for _, first := range edges() {
			h := api.Head{Id: id, Gen: 1, First: first}
			for _, x := range []struct {
				l         []api.Meta
				next, end int
				e         api.Errno
			}{
				{nil, first, frame.Size(uvarints(id, 1, first)), api.OK},
				{[]api.Meta{}, first, frame.Size(uvarints(id, 1, first)), api.OK},
				{two[:1], 302, 43, api.OK},
				{two, 303, 63, api.OK},
				{two[1:], 303, 63, api.OK},
				{broken, first, 0, api.ErrFoot},
				{make([]api.Meta, 1), first, 0, api.ErrFoot},
			} {
				if n := Next(h, x.l); n != x.next {
					t.Fatalf("Next of %v, %v: %d, want %d", h, x.l, n, x.next)
				}
				end, e := x.end, x.e
				if wantCheck(h) != api.OK {
					end, e = 0, api.ErrHead
				}
				if n, f := End(h, x.l); n != end || f != e {
					t.Fatalf("End of %v, %v: %d %d, want %d %d", h, x.l, n, int(f), end, int(e))
				}
			}
		}
	}
}

// P21.3 (Next, End): of a header without blocks the end is the length of its frame.
func TestEndOfFrame(t *testing.T) {
	for _, h := range []api.Head{{Id: 1, Gen: 1, First: 1}, {Id: 127, Gen: 128, First: 129}, {Id: 999999, Gen: 999999, First: 1000000000}, {Id: 16383, Gen: 16384, First: 2097152}} {
		body, e := Put(h)
		if e != api.OK {
			t.Fatal(h, int(e))
		}
		whole, e := frame.Put(api.KindHead, body)
		if e != api.OK {
			t.Fatal(h, int(e))
		}
		if n, e := End(h, nil); n != len(whole) || e != api.OK {
			t.Error(h, n, int(e), len(whole))
		}
	}
}

// chance tells a row by chance, of n blocks, with numbers of all sizes.
func chance(r *rand.Rand, n int) []api.Meta {
	var l []step
	for range n {
		raw := 1 + r.Intn(1+r.Intn(20000))
		l = append(l, step{size: 10 + r.Intn(1+r.Intn(1000)), raw: raw, count: 1 + r.Intn(min(raw, 1+r.Intn(300))), wait: r.Intn(1 + r.Intn(1000)), last: r.Intn(1 + r.Intn(100000))})
	}
	return rowOf(r.Intn(1+r.Intn(5000)), 1+r.Intn(1+r.Intn(900000000)), r.Intn(1+r.Intn(800000000)), l...)
}

// P21.4 (back): Get of Put is the header, GetFoot of PutFoot the blocks; what is taken is what is put (holdGet and holdFoot see to that).
func TestBack(t *testing.T) {
	r := rand.New(rand.NewSource(21))
	for range 20000 {
		h := api.Head{Id: 1 + r.Intn(1+r.Intn(999999)), Gen: 1 + r.Intn(1+r.Intn(999999)), First: 1 + r.Intn(1+r.Intn(1000000000))}
		s, e := Put(h)
		if e != api.OK {
			t.Fatal(h, int(e))
		}
		if back, e := Get(s); back != h || e != api.OK {
			t.Fatal(h, back, int(e))
		}
	}
	for range 2000 {
		l := chance(r, r.Intn(1+r.Intn(120)))
		s, e := PutFoot(l)
		if e != api.OK {
			t.Fatal(few(l), int(e))
		}
		if back, e := GetFoot(s); !slices.Equal(back, l) || e != api.OK {
			t.Fatal(few(l), few(back), int(e))
		}
	}
}

// P21.4 (back): bytes that were changed by chance tell an error, or blocks that have just these bytes.
func TestChangedBytes(t *testing.T) {
	r := rand.New(rand.NewSource(214))
	taken := 0
	for range 60000 {
		b := []byte(footOf(chance(r, r.Intn(6))))
		for range 1 + r.Intn(3) {
			switch at := r.Intn(len(b) + 1); {
			case r.Intn(3) == 0:
				b = slices.Insert(b, at, byte(r.Intn(256)))
			case at == len(b):
				b = b[:r.Intn(len(b)+1)]
			default:
				b[at] ^= 1 << r.Intn(8)
			}
		}
		holdFoot(t, string(b))
		holdGet(t, string(b))
		if _, e := GetFoot(string(b)); e == api.OK {
			taken++
		}
	}
	if taken < 100 {
		t.Error("only", taken, "were taken")
	}
}

// P21.5 (rows): a beginning of a row, and an end of one, is one; in a row numbers and bytes follow one another without gaps.
func TestPartsOfRows(t *testing.T) {
	r := rand.New(rand.NewSource(215))
	all := rows()
	for range 200 {
		all = append(all, chance(r, r.Intn(60)))
	}
	for _, l := range all {
		if Blocks(l) != api.OK {
			continue
		}
		for i := 0; i <= len(l); i += 1 + len(l)/50 {
			for _, part := range [][]api.Meta{l[:i], l[i:]} {
				if e := Blocks(part); e != api.OK {
					t.Fatal(few(part), int(e))
				}
			}
			if i == 0 || i == len(l) {
				continue
			}
			if n := Next(mayHead, l[:i]); n != l[i].First || block.Seqs(l[i-1]).Hi+1 != n {
				t.Fatal(few(l[i-1:]), n)
			}
			if n, e := End(mayHead, l[:i]); n != l[i].At || e != api.OK {
				t.Fatal(few(l[i-1:]), n, int(e))
			}
		}
	}
}

// What is handed in is not changed, its spare room neither, and what is handed out is new.
func TestNothingIsShared(t *testing.T) {
	row := rowOf(13, 300, 1, many(9)...)
	room := append(slices.Clone(row), api.Meta{At: -5, Late: 77}, api.Meta{At: -6})
	kept := slices.Clone(room)
	l := room[:9]
	s, _ := PutFoot(l)
	Blocks(l)
	Next(mayHead, l)
	End(mayHead, l)
	if !slices.Equal(room, kept) {
		t.Error("what was handed in has changed")
	}
	one, _ := GetFoot(s)
	two, _ := GetFoot(s)
	clear(one[:cap(one)])
	if !slices.Equal(two, row) {
		t.Error("two answers share their memory")
	}
	if three, _ := GetFoot(s); !slices.Equal(three, row) {
		t.Error("what was handed out was kept")
	}
}

// With an error every other result is its zero value.
func TestNothingBesideErrors(t *testing.T) {
	good := uvarints(1, 13, 30, 10, 2, 300, 1, 4)
	for _, s := range []string{"", good + "\x00", good[:len(good)-1], "\xe9\x07", "\x02" + good[1:] + good[1:]} {
		if l, e := GetFoot(s); len(l) != 0 || e == api.OK {
			t.Errorf("GetFoot of %x: %v %d", s, l, int(e))
		}
	}
	for _, s := range []string{"", "\x05\x06", "\x05\x06\x00", "\x05\x06\x07\x08"} {
		if h, e := Get(s); h != (api.Head{}) || e == api.OK {
			t.Errorf("Get of %x: %v %d", s, h, int(e))
		}
	}
}
