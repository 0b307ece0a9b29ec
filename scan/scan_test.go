package scan

import (
	"encoding/binary"
	"hash/crc32"
	"math"
	"math/rand"
	"slices"
	"strconv"
	"strings"
	"testing"

	"varve/api"
	"varve/block"
	"varve/frame"
	"varve/head"
	"varve/record"
	"varve/squash"
)

// The tests hold scan against the chapter's words, told here once more: all bytes are taken as frames ahead, the header and the footer are read (not written), and what is known of a block is counted from its records. Which frames and blocks may be comes from frame and block.

// few tells a text's first bytes, for a message.
func few(s string) string {
	return strconv.Quote(s[:min(len(s), 60)]) + " of " + strconv.Itoa(len(s))
}

// some tells the first of some blocks, for a message.
func some(l []api.Meta) []api.Meta { return l[:min(len(l), 4)] }

// noise tells n bytes of all kinds, the same ones each time.
func noise(n, seed int) string {
	r := rand.New(rand.NewSource(int64(seed)))
	b := make([]byte, n)
	r.Read(b)
	return string(b)
}

// uvarints tells the bytes of numbers.
func uvarints(l ...int) string {
	var b []byte
	for _, n := range l {
		b = binary.AppendUvarint(b, uint64(n))
	}
	return string(b)
}

// framedOf tells a frame, by chapter 16's words.
func framedOf(kind int, body string) string {
	b := binary.LittleEndian.AppendUint32([]byte{byte(kind)}, uint32(len(body)))
	b = append(b, body...)
	return string(binary.LittleEndian.AppendUint32(b, crc32.ChecksumIEEE(b)))
}

// headOf tells the frame of a header, which may be one that may not be.
func headOf(h api.Head) string { return framedOf(1, uvarints(h.Id, h.Gen, h.First)) }

// rawOf tells the bytes of records, by chapter 15's words.
func rawOf(l []api.Record) string {
	var s strings.Builder
	for _, r := range l {
		s.WriteString(uvarints(r.Seq, r.Tick, len(r.Data)) + r.Data)
	}
	return s.String()
}

// leadOf tells what stands in the block of records ahead of their bytes.
func leadOf(mode int, l []api.Record) string {
	first, last := l[0], l[len(l)-1]
	return string([]byte{byte(mode)}) + uvarints(len(rawOf(l)), len(l), first.Seq, first.Tick, last.Tick-first.Tick)
}

// plainOf and packedOf tell the bodies of records in mode 0 and in mode 1, whichever of them is shorter.
func plainOf(l []api.Record) string { return leadOf(0, l) + rawOf(l) }
func packedOf(t *testing.T, l []api.Record) string {
	t.Helper()
	s, e := squash.Pack(rawOf(l))
	if e != api.OK {
		t.Fatal(int(e))
	}
	return leadOf(1, l) + s
}

// row tells records from a number and a time on, one for each text, each next one some ticks later.
func row(first, tick, step int, data ...string) []api.Record {
	var l []api.Record
	for i, d := range data {
		l = append(l, api.Record{Seq: first + i, Tick: tick + i*step, Data: d})
	}
	return l
}

// blockOf tells the frame of the block of records.
func blockOf(t *testing.T, l ...api.Record) string {
	t.Helper()
	body, e := block.Encode(l)
	if e != api.OK {
		t.Fatal(int(e))
	}
	return framedOf(2, body)
}

// footOf tells the frame of the footer of blocks, which need not be a row.
func footOf(l []api.Meta) string {
	s := uvarints(len(l))
	for _, m := range l {
		s += uvarints(m.At, m.Size, m.Raw, m.Count, m.First, m.Early, m.Late-m.Early)
	}
	return framedOf(3, s)
}

// metaOf is what is to be known of the block of records whose frame is from at to to.
func metaOf(l []api.Record, at, to int) api.Meta {
	return api.Meta{At: at, Size: to - at, Raw: len(rawOf(l)), Count: len(l), First: l[0].Seq, Early: l[0].Tick, Late: l[len(l)-1].Tick}
}

// wantTail is P22.1.
func wantTail(s string, h api.Head) (l []api.Meta, end int, e api.Errno) {
	frames, _ := frame.Scan(s, 0)
	if len(frames) == 0 || frames[0].Kind != 1 {
		return nil, 0, api.ErrHead
	}
	// Get tells headers that may be alone.
	if got, e := head.Get(frames[0].Body); e != api.OK || got != h {
		return nil, 0, api.ErrHead
	}
	last := api.Record{Seq: h.First - 1}
	end = frames[0].To
	for _, f := range frames[1:] {
		records, e := block.Decode(f.Body)
		if f.Kind != 2 || e != api.OK || records[0].Seq != last.Seq+1 || records[0].Tick < last.Tick || len(l) >= 1000 {
			break
		}
		l, end, last = append(l, metaOf(records, f.At, f.To)), f.To, records[len(records)-1]
	}
	return l, end, api.OK
}

// wantSealed is P22.2.
func wantSealed(s string, h api.Head) ([]api.Meta, api.Errno) {
	l, end, e := wantTail(s, h)
	if e != api.OK {
		return nil, e
	}
	frames, to := frame.Scan(s[end:], 0)
	if len(l) == 0 || len(frames) != 1 || frames[0].Kind != 3 || to != len(s)-end {
		return nil, api.ErrFoot
	}
	if got, e := head.GetFoot(frames[0].Body); e != api.OK || !slices.Equal(got, l) {
		return nil, api.ErrFoot
	}
	return l, api.OK
}

// wantLoad is P22.3 of Load.
func wantLoad(s string, m api.Meta) ([]api.Record, api.Errno) {
	f, e := frame.Get(s, m.At)
	if e != api.OK {
		return nil, e
	}
	if f.Kind != 2 || f.To-f.At != m.Size {
		return nil, api.ErrBlock
	}
	l, e := block.Decode(f.Body)
	if e != api.OK {
		return nil, e
	}
	if metaOf(l, f.At, f.To) != m {
		return nil, api.ErrBlock
	}
	return l, api.OK
}

// wantRecords is P22.3 of Records.
func wantRecords(s string, l []api.Meta) ([]api.Record, api.Errno) {
	if e := head.Blocks(l); e != api.OK {
		return nil, e
	}
	var all []api.Record
	for _, m := range l {
		records, e := wantLoad(s, m)
		if e != api.OK {
			return nil, e
		}
		all = slices.Concat(all, records)
	}
	return all, api.OK
}

// holdTail holds Tail against the words, and tells how many blocks it found.
func holdTail(t *testing.T, s string, h api.Head) (int, api.Errno) {
	t.Helper()
	want, wantEnd, fault := wantTail(s, h)
	l, end, e := Tail(s, h)
	if !slices.Equal(l, want) || end != wantEnd || e != fault {
		t.Fatalf("Tail of %s, %v: %v (%d) %d %d, want %v (%d) %d %d", few(s), h, some(l), len(l), end, int(e), some(want), len(want), wantEnd, int(fault))
	}
	return len(l), e
}

// holdSealed holds Sealed against the words.
func holdSealed(t *testing.T, s string, h api.Head) api.Errno {
	t.Helper()
	want, fault := wantSealed(s, h)
	l, e := Sealed(s, h)
	if !slices.Equal(l, want) || e != fault {
		t.Fatalf("Sealed of %s, %v: %v (%d) %d, want %v (%d) %d", few(s), h, some(l), len(l), int(e), some(want), len(want), int(fault))
	}
	return e
}

// holdBytes holds Tail and Sealed against the words.
func holdBytes(t *testing.T, s string, h api.Head) {
	t.Helper()
	holdTail(t, s, h)
	holdSealed(t, s, h)
}

// holdLoad holds Load against the words.
func holdLoad(t *testing.T, s string, m api.Meta) api.Errno {
	t.Helper()
	want, fault := wantLoad(s, m)
	l, e := Load(s, m)
	if !slices.Equal(l, want) || e != fault {
		t.Fatalf("Load of %s, %v: %d records, %d, want %d, %d", few(s), m, len(l), int(e), len(want), int(fault))
	}
	return e
}

// holdRecords holds Records against the words.
func holdRecords(t *testing.T, s string, l []api.Meta) api.Errno {
	t.Helper()
	want, fault := wantRecords(s, l)
	got, e := Records(s, l)
	if !slices.Equal(got, want) || e != fault {
		t.Fatalf("Records of %s, %v (%d): %d records, %d, want %d, %d", few(s), some(l), len(l), len(got), int(e), len(want), int(fault))
	}
	return e
}

// found tells the blocks that stand behind a header, and holds them, their end and their records against the words.
func found(t *testing.T, s string, h api.Head) []api.Meta {
	t.Helper()
	l, _, e := Tail(s, h)
	if e != api.OK {
		t.Fatal(few(s), h, int(e))
	}
	holdBytes(t, s, h)
	for _, m := range l {
		holdLoad(t, s, m)
	}
	holdRecords(t, s, l)
	return l
}

// mayHead is a header that may be.
func mayHead() api.Head { return api.Head{Id: 3, Gen: 2, First: 10} }

// three tells the frames of three blocks that go on from mayHead on: of small records, of packed ones, of one with no data.
func three(t *testing.T) []string {
	t.Helper()
	return []string{
		blockOf(t, row(10, 5, 2, "a", "b", "")...),
		blockOf(t, row(13, 9, 0, strings.Repeat("GET /\n", 60), "x", noise(20, 1))...),
		blockOf(t, row(16, 9, 0, "")...),
	}
}

// edges tells numbers at the limits of headers, and what no header has.
func edges() []int {
	return []int{math.MinInt, -1000000001, -1, 0, 1, 2, 127, 128, 999998, 999999, 1000000, 1000001, 999999999, 1000000000, 1000000001, math.MaxInt32 + 1, math.MaxInt - 1, math.MaxInt}
}

// P22.1 (Tail): headers of all kinds, and bytes that begin with their frames.
func TestTailOfHeaders(t *testing.T) {
	told := map[api.Errno]int{}
	for _, id := range edges() {
		for _, gen := range edges() {
			for _, first := range edges() {
				h := api.Head{Id: id, Gen: gen, First: first}
				s := headOf(h)
				n, e := holdTail(t, s, h)
				if may := head.Check(h) == api.OK; n != 0 || may != (e == api.OK) {
					t.Fatal(h, n, int(e))
				}
				told[e]++
				holdSealed(t, s, h)
				// A header that may not be has no bytes: it is not the one of a frame without any.
				for _, other := range []string{"", framedOf(1, ""), headOf(mayHead())} {
					if _, e := holdTail(t, other, h); e != api.ErrHead {
						t.Fatal(h, few(other), int(e))
					}
				}
			}
		}
	}
	if told[api.OK] == 0 || told[api.ErrHead] == 0 {
		t.Error(told)
	}
}

// P22.1 (Tail): the header's frame must stand at the beginning, as a whole, and be just this one.
func TestTailOfOtherHeaders(t *testing.T) {
	h := mayHead()
	begin, rest := headOf(h), strings.Join(three(t), "")
	body := uvarints(3, 2, 10)
	for i, s := range []string{
		"", "\x01", begin[:5], begin[:len(begin)-1], rest, begin[1:] + rest, "\x00" + begin, begin[:len(begin)-1] + "\x00" + rest,
		framedOf(2, body) + rest, framedOf(3, body) + rest, framedOf(4, body) + rest, framedOf(0, body) + rest, framedOf(5, body) + rest,
		framedOf(1, "") + rest, framedOf(1, body[:2]) + rest, framedOf(1, body+"\x00") + rest, framedOf(1, "\x83\x00\x02\x0a") + rest,
		headOf(api.Head{Id: 4, Gen: 2, First: 10}) + rest, headOf(api.Head{Id: 3, Gen: 1, First: 10}) + rest,
		headOf(api.Head{Id: 3, Gen: 2, First: 11}) + rest, headOf(api.Head{Id: 2, Gen: 3, First: 10}) + rest,
		headOf(api.Head{Id: 4, Gen: 2, First: 10}) + begin + rest,
	} {
		if _, e := holdTail(t, s, h); e != api.ErrHead {
			t.Error(i, int(e))
		}
		if e := holdSealed(t, s, h); e != api.ErrHead {
			t.Error(i, int(e))
		}
	}
	for i := range len(begin) {
		for bit := range 8 {
			b := []byte(begin + rest)
			b[i] ^= 1 << bit
			if _, e := holdTail(t, string(b), h); e != api.ErrHead {
				t.Error(i, bit, int(e))
			}
		}
	}
	if n, e := holdTail(t, begin+rest, h); n != 3 || e != api.OK {
		t.Error(n, int(e))
	}
}

// P22.1 (Tail): where blocks go on, and where not.
func TestTailGoesOn(t *testing.T) {
	h := mayHead()
	begin := headOf(h)
	one := blockOf(t, row(10, 5, 2, "a", "b")...)
	two := blockOf(t, row(12, 7, 0, "c")...)
	later := blockOf(t, row(12, 8, 3, "c", "d")...)
	late := blockOf(t, row(12, 1000000000, 0, "c")...)
	early := blockOf(t, row(10, 0, 0, "a", "b")...)
	foot := footOf([]api.Meta{{At: 12, Size: len(one), Raw: 8, Count: 2, First: 10, Early: 5, Late: 7}})
	for i, x := range []struct {
		s string
		n int
	}{
		{begin, 0}, {begin + "\x00", 0}, {begin + one, 1}, {begin + one + two, 2}, {begin + one + later, 2}, {begin + one + late, 2}, {begin + early + two, 2},
		{begin + two, 0}, {begin + later + one, 0}, {begin + one + one, 1}, {begin + one + early, 1},
		// A number too many, and one too few; a time too early.
		{begin + blockOf(t, row(11, 5, 0, "a")...), 0}, {begin + blockOf(t, row(9, 5, 0, "a")...), 0},
		{begin + one + blockOf(t, row(13, 7, 0, "c")...), 1}, {begin + one + blockOf(t, row(11, 7, 0, "c")...), 1},
		{begin + one + blockOf(t, row(12, 6, 0, "c")...), 1}, {begin + one + blockOf(t, row(12, 6, 1, "c", "d")...), 1}, {begin + one + blockOf(t, row(12, 0, 9, "c", "d")...), 1},
		// What stands behind a block that does not go on is not looked at.
		{begin + one + blockOf(t, row(13, 7, 0, "c")...) + two, 1}, {begin + one + "\x00" + two, 1}, {begin + one + begin + two, 1}, {begin + one + foot + two, 1}, {begin + begin + one, 0},
		{begin + one + two + two, 2}, {begin + one + two + one, 2}, {begin + one + two[:len(two)-1], 1}, {begin + one + two[1:], 1},
		// Blocks' bodies as frames of other kinds, and other bodies as frames of blocks.
		{begin + framedOf(1, plainOf(row(10, 5, 0, "a"))), 0}, {begin + framedOf(3, plainOf(row(10, 5, 0, "a"))), 0}, {begin + framedOf(4, plainOf(row(10, 5, 0, "a"))), 0},
		{begin + framedOf(2, plainOf(row(10, 5, 0, "a"))), 1}, {begin + framedOf(0, plainOf(row(10, 5, 0, "a"))), 0}, {begin + framedOf(5, plainOf(row(10, 5, 0, "a"))), 0},
		{begin + framedOf(2, ""), 0}, {begin + framedOf(2, uvarints(3, 2, 10)), 0}, {begin + one + framedOf(2, ""), 1}, {begin + one + framedOf(2, noise(40, 2)), 1},
	} {
		if n, e := holdTail(t, x.s, h); n != x.n || e != api.OK {
			t.Error(i, n, x.n, int(e))
		}
		holdSealed(t, x.s, h)
		found(t, x.s, h)
	}
}

// P22.1 (Tail): what Peek takes, but Decode does not, is no block, wherever it stands.
func TestTailAsksDecode(t *testing.T) {
	h := mayHead()
	ahead, l, behind := row(10, 0, 5, "p", "q"), row(12, 5, 1, "aaaa", "b"), row(14, 7, 1, "cc", "d")
	lead := leadOf(0, l)
	for i, body := range []string{
		lead + rawOf(l), // the only one that Decode takes
		lead, lead + rawOf(l)[:3], lead + rawOf(l) + "\x00", lead + strings.Repeat("\x80", len(rawOf(l))), lead + rawOf(row(12, 5, 1, "aaaa0000")),
		lead + rawOf(row(12, 5, 0, "aaaa", "b")), lead + rawOf(row(13, 5, 1, "aaaa", "b")), lead + rawOf(row(12, 6, 0, "aaaa", "b")),
		lead + rawOf([]api.Record{l[0], {Seq: 14, Tick: 6, Data: "b"}}), leadOf(1, l) + rawOf(l), leadOf(1, l) + packedOf(t, l)[6:] + "\x00",
	} {
		if m, e := block.Peek(body); e != api.OK || m.First != 12 || m.Early != 5 || m.Count != 2 {
			t.Fatal(i, m, int(e))
		}
		_, e := block.Decode(body)
		if (e == api.OK) != (i == 0) {
			t.Fatal(i, int(e))
		}
		for n, s := range []string{headOf(api.Head{Id: 3, Gen: 2, First: 12}), headOf(h) + blockOf(t, ahead...)} {
			all, first := n, h.First
			if i == 0 {
				all += 2
			}
			if n == 0 {
				first = 12
			}
			h := api.Head{Id: 3, Gen: 2, First: first}
			if got, e := holdTail(t, s+framedOf(2, body)+blockOf(t, behind...), h); got != all || e != api.OK {
				t.Error(i, n, got, int(e))
			}
		}
	}
}

// P22.1 (Tail): either mode is taken, whichever of the two is shorter.
func TestTailOfBothModes(t *testing.T) {
	h := mayHead()
	for _, data := range []string{"", "a", strings.Repeat("ab", 300), noise(900, 3)} {
		l := row(10, 5, 0, data, data)
		for _, body := range []string{plainOf(l), packedOf(t, l)} {
			s := headOf(h) + framedOf(2, body)
			m := api.Meta{At: 12, Size: len(body) + 9, Raw: len(rawOf(l)), Count: 2, First: 10, Early: 5, Late: 5}
			if got := found(t, s, h); len(got) != 1 || got[0] != m {
				t.Error(few(data), got, m)
			}
			if l, e := Sealed(s+footOf([]api.Meta{m}), h); len(l) != 1 || l[0] != m || e != api.OK {
				t.Error(few(data), l, int(e))
			}
		}
	}
}

// P22.1 (Tail): the numbers of a segment may go up to the greatest there is.
func TestTailAtTheEndOfNumbers(t *testing.T) {
	for _, first := range []int{1, 2, 999999998, 999999999, 1000000000} {
		h := api.Head{Id: 999999, Gen: 999999, First: first}
		s := headOf(h)
		var want []api.Meta
		for n := first; n <= min(first+2, 1000000000); n++ {
			b := blockOf(t, row(n, 1000000000, 0, "z")...)
			want = append(want, api.Meta{At: len(s), Size: len(b), Raw: len(uvarints(n, 1000000000, 1)) + 1, Count: 1, First: n, Early: 1000000000, Late: 1000000000})
			s += b
			if l := found(t, s, h); !slices.Equal(l, want) {
				t.Fatal(h, l, want)
			}
		}
		// No block goes on behind the last number: one that has it as its First may not be.
		next := leadOf(0, row(first+len(want), 1000000000, 0, "z")) + rawOf(row(first+len(want), 1000000000, 0, "z"))
		if n, _ := holdTail(t, s+framedOf(2, next), h); (n > len(want)) != (first < 3) {
			t.Error(h, n)
		}
		if e := holdSealed(t, s+footOf(want), h); e != api.OK {
			t.Error(h, int(e))
		}
	}
}

// chain tells the bytes of a segment of n blocks, of one small record each.
func chain(t *testing.T, h api.Head, n int) string {
	t.Helper()
	var s strings.Builder
	s.WriteString(headOf(h))
	for i := range n {
		s.WriteString(framedOf(2, plainOf(row(h.First+i, i/3, 0, "v"))))
	}
	return s.String()
}

// P22.1 (Tail), P22.2 (Sealed): at most 1000 blocks.
func TestMostBlocks(t *testing.T) {
	h := mayHead()
	for _, n := range []int{1, 2, 998, 999, 1000, 1001, 1002, 1500} {
		s := chain(t, h, n)
		l := found(t, s, h)
		if len(l) != min(n, 1000) {
			t.Fatal(n, len(l))
		}
		last := l[len(l)-1]
		if _, end, _ := Tail(s, h); end != last.At+last.Size || (end == len(s)) != (n <= 1000) {
			t.Error(n, end, len(s))
		}
		want := api.OK
		if n > 1000 {
			want = api.ErrFoot
		}
		if e := holdSealed(t, s+footOf(l), h); e != want {
			t.Error(n, int(e))
		}
		if e := holdSealed(t, s[:last.At+last.Size]+footOf(l), h); e != api.OK {
			t.Error(n, int(e))
		}
	}
}

// single tells the frame of a block of one record with so many bytes of data.
func single(seq, size int) string { return framedOf(2, plainOf(row(seq, 7, 0, noise(size, 4)))) }

// upTo tells the bytes of a segment, of which a block more would begin at a place, and how many blocks it has. All numbers from 200 on that it uses have two bytes, so that of two blocks the one with a byte more of data is a byte longer.
func upTo(t *testing.T, h api.Head, place int) (string, int) {
	t.Helper()
	s, n := headOf(h), 0
	for ; place-len(s) >= 4000; n++ {
		s += single(h.First+n, 1900)
	}
	for _, part := range []int{(place - len(s)) / 2, (place - len(s) + 1) / 2} {
		s += single(h.First+n, part-len(single(h.First, 200))+200)
		n++
	}
	if len(s) != place {
		t.Fatal(len(s), place)
	}
	return s, n
}

// P22.1 (Tail), P22.2 (Sealed), P22.3 (Load, Records): Tail goes on behind the furthest place at which a block of a row (21) may begin; a footer does not.
func TestFarBlocks(t *testing.T) {
	h := api.Head{Id: 3, Gen: 2, First: 200}
	for place := 999999; place <= 1000001; place++ {
		s, n := upTo(t, h, place)
		if e := holdSealed(t, s+footOf(found(t, s, h)), h); e != api.OK {
			t.Error(place, int(e))
		}
		s += single(h.First+n, 300)
		l := found(t, s, h)
		if len(l) != n+1 || l[n].At != place {
			t.Fatal(place, len(l), n)
		}
		want := api.OK
		if place > 1000000 {
			want = api.ErrFoot
		}
		if e := holdSealed(t, s+footOf(l), h); e != want {
			t.Error(place, int(e))
		}
		if e := holdRecords(t, s, l); e != want {
			t.Error(place, int(e))
		}
		if e := holdLoad(t, s, l[n]); e != api.OK {
			t.Error(place, int(e))
		}
	}
}

// fields tells the numbers of a block.
func fields(m *api.Meta) []*int {
	return []*int{&m.At, &m.Size, &m.Raw, &m.Count, &m.First, &m.Early, &m.Late}
}

// spoils tells blocks with one number changed.
func spoils(m api.Meta) []api.Meta {
	var l []api.Meta
	for i := range fields(&m) {
		for _, by := range []int{-1000000, -2, -1, 1, 2, 100, 1000000} {
			other := m
			*fields(&other)[i] += by
			l = append(l, other)
		}
		for _, n := range []int{math.MinInt, -1, 0, 1, math.MaxInt} {
			other := m
			*fields(&other)[i] = n
			l = append(l, other)
		}
	}
	return l
}

// P22.2 (Sealed): the footer is that of just these blocks.
func TestSealedByOtherFooters(t *testing.T) {
	h := mayHead()
	s := headOf(h) + strings.Join(three(t), "")
	l := found(t, s, h)
	if e := holdSealed(t, s+footOf(l), h); e != api.OK {
		t.Fatal(int(e))
	}
	var others [][]api.Meta
	others = append(others, nil, l[:1], l[:2], l[1:], l[2:], slices.Concat(l, l[2:]), slices.Concat(l[:1], l[2:]), make([]api.Meta, 3),
		slices.Concat(l, []api.Meta{{At: l[2].At + l[2].Size, Size: 20, Raw: 4, Count: 1, First: 17, Early: 9, Late: 9}}))
	for i := range l {
		for _, m := range spoils(l[i]) {
			if m == l[i] {
				continue
			}
			other := slices.Clone(l)
			other[i] = m
			others = append(others, other)
		}
	}
	for _, other := range others {
		if e := holdSealed(t, s+footOf(other), h); e != api.ErrFoot {
			t.Error(other, int(e))
		}
	}
}

// P22.2 (Sealed): one block at least, one footer, whole, and nothing else.
func TestSealedEndsThere(t *testing.T) {
	h := mayHead()
	parts := three(t)
	s := headOf(h) + strings.Join(parts, "")
	l := found(t, s, h)
	foot := footOf(l)
	body := foot[5 : len(foot)-4]
	for i, x := range []string{
		"", foot + "x", foot + "\x00", foot + foot, foot + parts[2], "\x00" + foot, foot[1:], headOf(h) + foot, footOf(l[:2]) + foot,
		framedOf(1, body), framedOf(2, body), framedOf(4, body), framedOf(0, body), framedOf(5, body),
		framedOf(3, ""), framedOf(3, body+"\x00"), framedOf(3, body[:len(body)-1]), framedOf(3, "\x83\x00"+body[1:]), framedOf(3, "\x03"), framedOf(3, "\xe9\x07"),
		foot[:len(foot)-1] + string([]byte{foot[len(foot)-1] ^ 1}),
	} {
		if e := holdSealed(t, s+x, h); e != api.ErrFoot {
			t.Error(i, int(e))
		}
	}
	for _, x := range []string{footOf(nil), "", foot, framedOf(3, ""), footOf(nil) + "x"} {
		if e := holdSealed(t, headOf(h)+x, h); e != api.ErrFoot {
			t.Errorf("no blocks, and %x: %d", x, int(e))
		}
	}
	for i := range foot {
		if e := holdSealed(t, s+foot[:i], h); e != api.ErrFoot {
			t.Error(i, int(e))
		}
		for bit := range 8 {
			b := []byte(foot)
			b[i] ^= 1 << bit
			if e := holdSealed(t, s+string(b), h); e != api.ErrFoot {
				t.Error(i, bit, int(e))
			}
		}
	}
	for i, want := range []api.Errno{api.ErrFoot, api.OK, api.OK, api.OK} {
		n := headOf(h) + strings.Join(parts[:i], "")
		if e := holdSealed(t, n+footOf(l[:i]), h); e != want {
			t.Error(i, int(e))
		}
	}
}

// P22.3 (Load): what is known of the block must be just this, and faults come in their order.
func TestLoadOfOtherMetas(t *testing.T) {
	h := mayHead()
	s := headOf(h) + strings.Join(three(t), "")
	l := found(t, s, h)
	s += footOf(l)
	told := map[api.Errno]int{}
	for _, m := range l {
		if e := holdLoad(t, s, m); e != api.OK {
			t.Error(m, int(e))
		}
		for _, other := range spoils(m) {
			e := holdLoad(t, s, other)
			if (e == api.OK) != (other == m) {
				t.Error(m, other, int(e))
			}
			told[e]++
			// A frame's fault, and another size, come ahead of the rest.
			for _, both := range spoils(other) {
				told[holdLoad(t, s, both)]++
			}
		}
		holdLoad(t, s, api.Meta{At: m.At, Size: m.Size})
		holdLoad(t, s, api.Meta{})
	}
	for _, e := range []api.Errno{api.ErrArg, api.ErrFrame, api.ErrBig, api.ErrBlock, api.OK} {
		if told[e] == 0 {
			t.Error("never told:", int(e), told)
		}
	}
	for at := -3; at <= len(s)+3; at++ {
		m := l[1]
		m.At = at
		if e := holdLoad(t, s, m); (e == api.OK) != (at == l[1].At) || (e == api.ErrArg) != (at < 0 || at > len(s)) {
			t.Error(at, int(e))
		}
	}
}

// P22.3 (Load): the errors, one by one, and which of several is told.
func TestTheErrorsOfLoad(t *testing.T) {
	l := row(10, 5, 1, "aaaa", "b")
	good := framedOf(2, plainOf(l))
	m := metaOf(l, 0, len(good))
	sized := func(s string) api.Meta {
		return api.Meta{At: 0, Size: len(s), Raw: m.Raw, Count: 2, First: 10, Early: 5, Late: 6}
	}
	spoilt := good[:len(good)-1] + string([]byte{good[len(good)-1] ^ 1})
	shorter := framedOf(2, leadOf(0, l)+rawOf(l)[:5])
	mode := framedOf(2, "\x02"+plainOf(l)[1:])
	order := framedOf(2, leadOf(0, l)+rawOf([]api.Record{l[0], {Seq: 10, Tick: 6, Data: "b"}}))
	// Its numbers say another First than its records.
	liar := framedOf(2, leadOf(0, row(11, 5, 1, "aaaa", "b"))+rawOf(l))
	huge := "\x02\x61\xea\x00\x00" + strings.Repeat("x", 60009)
	for i, x := range []struct {
		s    string
		m    api.Meta
		want api.Errno
	}{
		{good, m, api.OK},
		{good + "x", m, api.OK},
		{"", m, api.ErrShort},
		{good[:4], m, api.ErrShort},
		{good[:len(good)-1], m, api.ErrShort},
		{"\x00" + good[1:], m, api.ErrFrame},
		{"\x05" + good[1:], m, api.ErrFrame},
		{huge, m, api.ErrBig},
		{spoilt, m, api.ErrSum},
		{spoilt, api.Meta{}, api.ErrSum},
		{framedOf(1, plainOf(l)), m, api.ErrBlock},
		{framedOf(3, plainOf(l)), m, api.ErrBlock},
		{framedOf(4, plainOf(l)), m, api.ErrBlock},
		// The kind and the size come ahead of what the block says.
		{framedOf(3, ""), api.Meta{Size: 9}, api.ErrBlock},
		{framedOf(2, ""), api.Meta{Size: 9}, api.ErrShort},
		{framedOf(2, ""), api.Meta{Size: 10}, api.ErrBlock},
		{shorter, sized(shorter), api.ErrForm},
		{shorter, api.Meta{Size: len(shorter)}, api.ErrForm},
		{shorter, m, api.ErrBlock},
		{shorter, api.Meta{Size: len(shorter) + 1}, api.ErrBlock},
		{mode, sized(mode), api.ErrBlock},
		{order, sized(order), api.ErrOrder},
		{order, api.Meta{Size: len(order)}, api.ErrOrder},
		{order, api.Meta{Size: len(order) - 1}, api.ErrBlock},
		{liar, sized(liar), api.ErrBlock},
		{liar, api.Meta{Size: len(liar), Raw: m.Raw, Count: 2, First: 11, Early: 5, Late: 6}, api.ErrBlock},
		{good, api.Meta{At: len(good), Size: len(good)}, api.ErrShort},
		{good, api.Meta{At: len(good) + 1, Size: len(good)}, api.ErrArg},
		{good, api.Meta{At: -1, Size: len(good)}, api.ErrArg},
		{good, api.Meta{At: math.MinInt, Size: math.MinInt}, api.ErrArg},
		{good, api.Meta{At: math.MaxInt, Size: math.MaxInt}, api.ErrArg},
		{good, api.Meta{Size: math.MinInt}, api.ErrBlock},
		{good, api.Meta{Size: math.MaxInt}, api.ErrBlock},
		{good, api.Meta{Size: len(good)}, api.ErrBlock},
	} {
		if got, e := Load(x.s, x.m); e != x.want || (e == api.OK) != (len(got) == 2) {
			t.Errorf("%d: %d %d, want %d", i, len(got), int(e), int(x.want))
		}
		holdLoad(t, x.s, x.m)
	}
}

// P22.3 (Records): a row's error comes ahead of the blocks', the first block's ahead of the next one's.
func TestTheErrorsOfRecords(t *testing.T) {
	h := mayHead()
	s := headOf(h) + strings.Join(three(t), "")
	l := found(t, s, h)
	twice := []api.Meta{l[0], l[0]}
	sum := []byte(s)
	sum[l[0].At+l[0].Size-1] ^= 1
	kind := []byte(s)
	kind[l[1].At] = 0
	other := slices.Clone(l)
	other[0].Raw++
	late := slices.Clone(l)
	late[2].Late++
	for i, x := range []struct {
		s     string
		l     []api.Meta
		count int
		want  api.Errno
	}{
		{s, l, 7, api.OK},
		{s, nil, 0, api.OK},
		{s, []api.Meta{}, 0, api.OK},
		{"", nil, 0, api.OK},
		{s, l[:1], 3, api.OK},
		{s, l[1:], 4, api.OK},
		{s, l[1:2], 3, api.OK},
		{s, l[2:], 1, api.OK},
		{"", l, 0, api.ErrArg},
		{"", twice, 0, api.ErrFoot},
		{s, twice, 0, api.ErrFoot},
		{s, []api.Meta{l[0], l[2]}, 0, api.ErrFoot},
		{s, []api.Meta{l[1], l[0]}, 0, api.ErrFoot},
		{s, make([]api.Meta, 1), 0, api.ErrFoot},
		{s[:l[2].At], l, 0, api.ErrShort},
		{s[:l[1].At], l, 0, api.ErrShort},
		{s[:l[1].At-1], l, 0, api.ErrShort},
		{string(sum), l, 0, api.ErrSum},
		{string(sum), l[1:], 4, api.OK},
		{string(kind), l, 0, api.ErrFrame},
		{string(sum[:l[1].At]) + string(kind[l[1].At:]), l, 0, api.ErrSum},
		{string(kind[:l[2].At]), l, 0, api.ErrFrame},
		{s, other, 0, api.ErrBlock},
		{string(kind), other, 0, api.ErrBlock},
		{s, late, 0, api.ErrBlock},
		{string(kind), late, 0, api.ErrFrame},
	} {
		if got, e := Records(x.s, x.l); len(got) != x.count || e != x.want {
			t.Errorf("%d: %d %d, want %d %d", i, len(got), int(e), x.count, int(x.want))
		}
		holdRecords(t, x.s, x.l)
	}
}

// P22.3 (Records): more blocks than a row may have.
func TestRecordsOfTooManyBlocks(t *testing.T) {
	h := mayHead()
	s := chain(t, h, 1001)
	l := found(t, s, h)
	m := l[999]
	more := append(slices.Clone(l), api.Meta{At: m.At + m.Size, Size: len(s) - m.At - m.Size, Raw: 5, Count: 1, First: 1010, Early: 333, Late: 333})
	more[1000].Raw = len(rawOf(row(1010, 333, 0, "v")))
	if e := holdLoad(t, s, more[1000]); e != api.OK {
		t.Fatal(int(e))
	}
	if e := holdRecords(t, s, more); e != api.ErrFoot {
		t.Error(int(e))
	}
	if e := holdRecords(t, s, more[1:]); e != api.OK {
		t.Error(int(e))
	}
}

// segment tells by chance the bytes of a segment of n blocks, and the records in it.
func segment(t *testing.T, r *rand.Rand, h api.Head, n int) (string, []api.Record) {
	t.Helper()
	s, seq, tick := headOf(h), h.First, r.Intn(1000)
	var all []api.Record
	for range n {
		var l []api.Record
		for range 1 + r.Intn(1+r.Intn(12)) {
			data := noise(r.Intn(1+r.Intn(60)), r.Int())
			if r.Intn(2) == 0 {
				data = strings.Repeat("varve ", r.Intn(1+r.Intn(60)))
			}
			l = append(l, api.Record{Seq: seq, Tick: tick, Data: data})
			seq, tick = seq+1, tick+r.Intn(1+r.Intn(300))
		}
		s, all = s+blockOf(t, l...), append(all, l...)
	}
	return s, all
}

// P22.1 (Tail), P22.2 (Sealed), P22.3 (Records): segments by chance are found as they were made.
func TestSegments(t *testing.T) {
	r := rand.New(rand.NewSource(22))
	for range 150 {
		h := api.Head{Id: 1 + r.Intn(999999), Gen: 1 + r.Intn(999999), First: 1 + r.Intn(1+r.Intn(900000000))}
		n := r.Intn(1 + r.Intn(30))
		s, all := segment(t, r, h, n)
		l := found(t, s, h)
		if _, end, _ := Tail(s, h); len(l) != n || end != len(s) {
			t.Fatal(h, n, len(l), end, len(s))
		}
		if end, e := head.End(h, l); end != len(s) || e != api.OK {
			t.Fatal(h, n, end, len(s), int(e))
		}
		sealed, e := Sealed(s+footOf(l), h)
		if want := n > 0; want != (e == api.OK) || want && !slices.Equal(sealed, l) {
			t.Fatal(h, n, len(sealed), int(e))
		}
		for i := 0; i <= n; i++ {
			part, e := Records(s, l[i:])
			from := len(all)
			if i < n {
				from = l[i].First - h.First
			}
			if e != api.OK || !slices.Equal(part, all[from:]) {
				t.Fatal(h, n, i, int(e))
			}
		}
	}
}

// P22.1 to P22.3: bytes that were changed by chance, and parts that stand in another order.
func TestChangedBytes(t *testing.T) {
	r := rand.New(rand.NewSource(221))
	h := api.Head{Id: 7, Gen: 1, First: 40}
	for range 4000 {
		s, _ := segment(t, r, h, r.Intn(6))
		l, _, _ := Tail(s, h)
		b := []byte(s + footOf(l))
		for range 1 + r.Intn(2) {
			switch at := r.Intn(len(b)); r.Intn(4) {
			case 0:
				b = slices.Insert(b, at, byte(r.Intn(256)))
			case 1:
				b = b[:at+1]
			case 2:
				to := at + r.Intn(len(b)-at)
				b = slices.Concat(b[:at], b[to:])
			default:
				b[at] ^= 1 << r.Intn(8)
			}
		}
		holdBytes(t, string(b), h)
		for _, m := range l {
			holdLoad(t, string(b), m)
		}
		holdRecords(t, string(b), l)
	}
}

// P22.1 (Tail), P22.2 (Sealed): frames of all kinds, drawn by chance and laid one behind the other.
func TestLaidFrames(t *testing.T) {
	r := rand.New(rand.NewSource(222))
	h := mayHead()
	parts := []string{headOf(h), "\x00", footOf(nil), framedOf(2, ""), framedOf(4, "m")}
	for first := 9; first < 15; first++ {
		for tick := range 3 {
			for n := 1; n <= 2; n++ {
				parts = append(parts, blockOf(t, row(first, tick, 1, "ab", "c")[:n]...))
			}
		}
	}
	long, sealed := 0, 0
	for range 40000 {
		s := headOf(h)
		for range 1 + r.Intn(5) {
			s += parts[r.Intn(len(parts))]
			if r.Intn(3) > 0 {
				continue
			}
			// The footer of what goes on up to here, or a block that does go on.
			l, _, _ := wantTail(s, h)
			s += footOf(l)
		}
		n, _ := holdTail(t, s, h)
		if n > 1 {
			long++
		}
		if holdSealed(t, s, h) == api.OK {
			sealed++
		}
	}
	if long < 100 || sealed < 100 {
		t.Error("only", long, "had blocks that went on, and", sealed, "were sealed")
	}
}

// P22.4 (prefix): of a beginning Tail finds the first blocks of all bytes, and an end up to which the bytes are the same frames.
func TestBeginnings(t *testing.T) {
	r := rand.New(rand.NewSource(224))
	h := api.Head{Id: 7, Gen: 1, First: 40}
	for range 12 {
		s, _ := segment(t, r, h, r.Intn(7))
		all, _, _ := Tail(s, h)
		whole := s + footOf(all) + "rest"
		frames, _ := frame.Scan(whole, 0)
		for i := range len(whole) + 1 {
			l, end, e := Tail(whole[:i], h)
			if i < frames[0].To {
				if e != api.ErrHead {
					t.Fatal(i, int(e))
				}
				continue
			}
			n := len(l)
			if e != api.OK || n > len(all) || !slices.Equal(l, all[:n]) || end != frames[n].To || end > i {
				t.Fatal(i, n, end, int(e))
			}
			// No block that is whole is left out.
			if n < len(all) && all[n].At+all[n].Size <= i {
				t.Fatal(i, n, len(all))
			}
			if got, to := frame.Scan(whole[:end], 0); to != end || !slices.Equal(got, frames[:n+1]) {
				t.Fatal(i, n, end)
			}
		}
	}
}

// P22.5 (grows): a block more behind the end is found, too, and the records of what is found are a row.
func TestOneBlockMore(t *testing.T) {
	r := rand.New(rand.NewSource(225))
	h := api.Head{Id: 7, Gen: 1, First: 40}
	for range 60 {
		s, all := segment(t, r, h, r.Intn(9))
		l, end, _ := Tail(s+[]string{"", "x", footOf(nil), headOf(h)}[r.Intn(4)], h)
		if end != len(s) {
			t.Fatal(end, len(s))
		}
		next, tick := head.Next(h, l), 0
		if len(all) > 0 {
			tick = all[len(all)-1].Tick
		}
		for _, later := range []int{0, 1, 1000} {
			more := row(next, tick+later, 3, "p", strings.Repeat("q", 90), "")[:1+r.Intn(3)]
			longer := s + blockOf(t, more...)
			grown := found(t, longer, h)
			if !slices.Equal(grown, append(slices.Clone(l), metaOf(more, len(s), len(longer)))) {
				t.Fatal(len(grown), len(l))
			}
			got, e := Records(longer, grown)
			if e != api.OK || !slices.Equal(got, append(slices.Clone(all), more...)) || record.Row(got) != api.OK {
				t.Fatal(len(got), int(e))
			}
		}
		if tick > 0 {
			if n, _ := holdTail(t, s+blockOf(t, row(next, tick-1, 0, "p")...), h); n != len(l) {
				t.Fatal(n, len(l))
			}
		}
	}
}

// What is handed in is not changed, its spare room neither, and what is handed out is new.
func TestNothingIsShared(t *testing.T) {
	h := mayHead()
	s := headOf(h) + strings.Join(three(t), "")
	l := found(t, s, h)
	foot := footOf(l)
	room := append(slices.Clone(l), api.Meta{At: -5, Late: 77}, api.Meta{At: -6})
	kept := slices.Clone(room)
	if _, e := Records(s, room[:3]); e != api.OK || !slices.Equal(room, kept) {
		t.Error("what was handed in has changed", int(e))
	}
	for _, call := range []func() []api.Meta{
		func() []api.Meta { l, _, _ := Tail(s, h); return l },
		func() []api.Meta { l, _ := Sealed(s+foot, h); return l },
	} {
		one, two := call(), call()
		clear(one[:cap(one)])
		if !slices.Equal(two, l) || !slices.Equal(call(), l) {
			t.Error("blocks are shared, or kept")
		}
	}
	for _, call := range []func() []api.Record{
		func() []api.Record { l, _ := Load(s, l[1]); return l },
		func() []api.Record { l, _ := Records(s, l); return l },
		func() []api.Record { l, _ := Records(s, l[:1]); return l },
	} {
		one, two := call(), call()
		first := slices.Clone(two)
		clear(one[:cap(one)])
		if len(two) == 0 || !slices.Equal(two, first) || !slices.Equal(call(), first) {
			t.Error("records are shared, or kept")
		}
	}
}

// With an error every other result is its zero value.
func TestNothingBesideErrors(t *testing.T) {
	h := mayHead()
	s := headOf(h) + strings.Join(three(t), "")
	l := found(t, s, h)
	if m, end, e := Tail(s[1:], h); len(m) != 0 || end != 0 || e != api.ErrHead {
		t.Error(m, end, int(e))
	}
	if m, end, e := Tail(s, api.Head{}); len(m) != 0 || end != 0 || e != api.ErrHead {
		t.Error(m, end, int(e))
	}
	for _, x := range []string{"", s, s[:len(s)-1], s + "x", s + footOf(l) + "x"} {
		if m, e := Sealed(x, h); len(m) != 0 || e == api.OK {
			t.Error(few(x), m, int(e))
		}
	}
	for _, x := range []string{"", s[:l[2].At], s[:len(s)-1], s[1:]} {
		if r, e := Records(x, l); len(r) != 0 || e == api.OK {
			t.Error(few(x), len(r), int(e))
		}
		if r, e := Load(x, l[2]); len(r) != 0 || e == api.OK {
			t.Error(few(x), len(r), int(e))
		}
	}
	other := l[1]
	other.Late++
	if r, e := Load(s, other); len(r) != 0 || e != api.ErrBlock {
		t.Error(len(r), int(e))
	}
}

// The chapter's example: the header's frame alone: no blocks, and its length.
func TestExample(t *testing.T) {
	h := api.Head{Id: 1, Gen: 1, First: 1}
	s := headOf(h)
	if l, end, e := Tail(s, h); len(l) != 0 || end != len(s) || end != 12 || e != api.OK {
		t.Error(l, end, int(e))
	}
}
