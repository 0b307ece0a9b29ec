package disk

import (
	"slices"
	"strings"
	"testing"

	"varve/api"
)

// The tests hold disk against the chapter's words, told here once more: a model has each directory that there was since the last one that was synced, as a row of names with the numbers of their files. What a Boot takes is one of these rows; no change is done twice.

type pair struct{ safe, now string }

type slot struct {
	name string
	file int
}

type model struct {
	capacity, ops, fuse int
	on                  bool
	files               []pair
	rows                [][]slot
}

func newModel(capacity int) *model {
	return &model{capacity: capacity, on: true, rows: [][]slot{nil}}
}

// row is the directory.
func (m *model) row() []slot { return m.rows[len(m.rows)-1] }

// number tells a name's file: -1, if there is no such name.
func (m *model) number(s string) int {
	for _, x := range m.row() {
		if x.name == s {
			return x.file
		}
	}
	return -1
}

func (m *model) used() int {
	n := 0
	for _, x := range m.row() {
		n += len(m.files[x.file].now)
	}
	return n
}

// may tells whether a name may be.
func may(s string) bool {
	return len(s) > 0 && len(s) < 65 && strings.Trim(s, "abcdefghijklmnopqrstuvwxyz0123456789.-") == ""
}

// without is a row without a name.
func without(l []slot, s string) []slot {
	return slices.DeleteFunc(slices.Clone(l), func(x slot) bool { return x.name == s })
}

// with is a row with a name and its file, in order.
func with(l []slot, s string, file int) []slot {
	l = append(without(l, s), slot{s, file})
	slices.SortFunc(l, func(a, b slot) int { return strings.Compare(a.name, b.name) })
	return l
}

// op does an op that has no error of its own; late ones are not done by the armed one.
func (m *model) op(late bool, do func()) api.Errno {
	m.ops++
	m.fuse--
	end := m.fuse == 0
	if !end || !late {
		do()
	}
	if end {
		m.on = false
		return api.ErrDead
	}
	return api.OK
}

// turn is an op after which the directory is l.
func (m *model) turn(l []slot) api.Errno {
	return m.op(false, func() { m.rows = append(m.rows, l) })
}

func (m *model) create(s string) api.Errno {
	switch {
	case !m.on:
		return api.ErrDead
	case !may(s):
		return api.ErrName
	case m.number(s) >= 0:
		return api.ErrExist
	case len(m.row()) == 200:
		return api.ErrFull
	}
	m.files = append(m.files, pair{})
	return m.turn(with(m.row(), s, len(m.files)-1))
}

func (m *model) append(s, text string) api.Errno {
	at := m.number(s)
	switch {
	case !m.on:
		return api.ErrDead
	case at < 0:
		return api.ErrNone
	case len(m.files[at].now)+len(text) > 1000000:
		return api.ErrBig
	case m.used()+len(text) > m.capacity:
		return api.ErrFull
	}
	return m.op(false, func() { m.files[at].now += text })
}

func (m *model) sync(s string) api.Errno {
	at := m.number(s)
	switch {
	case !m.on:
		return api.ErrDead
	case at < 0:
		return api.ErrNone
	}
	return m.op(true, func() { m.files[at].safe = m.files[at].now })
}

func (m *model) cut(s string, n int) api.Errno {
	at := m.number(s)
	switch {
	case !m.on:
		return api.ErrDead
	case at < 0:
		return api.ErrNone
	case n < 0 || n > len(m.files[at].now):
		return api.ErrArg
	}
	return m.op(false, func() { m.files[at].now = m.files[at].now[:n] })
}

func (m *model) rename(from, to string) api.Errno {
	at := m.number(from)
	switch {
	case !m.on:
		return api.ErrDead
	case at < 0:
		return api.ErrNone
	case !may(to):
		return api.ErrName
	case from == to:
		return api.ErrArg
	}
	return m.turn(with(without(m.row(), from), to, at))
}

func (m *model) remove(s string) api.Errno {
	switch {
	case !m.on:
		return api.ErrDead
	case m.number(s) < 0:
		return api.ErrNone
	}
	return m.turn(without(m.row(), s))
}

func (m *model) dirSync() api.Errno {
	if !m.on {
		return api.ErrDead
	}
	return m.op(true, func() { m.rows = [][]slot{m.row()} })
}

func (m *model) read(s string) (string, api.Errno) {
	at := m.number(s)
	switch {
	case !m.on:
		return "", api.ErrDead
	case at < 0:
		return "", api.ErrNone
	}
	return m.files[at].now, api.OK
}

func (m *model) arm(after int) api.Errno {
	switch {
	case !m.on:
		return api.ErrDead
	case after < 1:
		return api.ErrArg
	}
	m.fuse = after
	return api.OK
}

func (m *model) boot(c api.Choice) api.Errno {
	row := m.rows[min(max(c.Dir, 0), len(m.rows)-1)]
	at := 0
	for _, x := range row {
		f := &m.files[x.file]
		if f.safe == f.now {
			continue
		}
		cut, mark := 0, ""
		if at < len(c.Cuts) {
			cut = c.Cuts[at]
		}
		if at < len(c.Marks) {
			mark = c.Marks[at]
		}
		s := wantLeft(f.safe, f.now, cut, mark)
		*f = pair{s, s}
		at++
	}
	m.rows, m.on, m.fuse = [][]slot{row}, true, 0
	return api.OK
}

// wantLeft is what is left of a file: each byte behind safe is laid alone, that of now or that of mark.
func wantLeft(safe, now string, cut int, mark string) string {
	if !strings.HasPrefix(now, safe) {
		if cut > 0 {
			return now
		}
		return safe
	}
	var l []byte
	for i := range len(now) {
		if i < len(safe) || i-len(safe) < cut {
			l = append(l, now[i])
		}
	}
	for back := 1; back <= len(mark) && back <= 64 && len(l)-back >= len(safe); back++ {
		l[len(l)-back] = mark[len(mark)-back]
	}
	return string(l)
}

// step is one call, by its name.
type step struct {
	call    string
	s, text string
	n       int
	c       api.Choice
}

// on does a step on a disk.
func (x step) on(d *Disk) api.Errno {
	switch x.call {
	case "create":
		return d.Create(x.s)
	case "append":
		return d.Append(x.s, x.text)
	case "sync":
		return d.Sync(x.s)
	case "cut":
		return d.Cut(x.s, x.n)
	case "rename":
		return d.Rename(x.s, x.text)
	case "remove":
		return d.Remove(x.s)
	case "dirsync":
		return d.DirSync()
	case "arm":
		return d.Arm(x.n)
	case "off":
		return d.Off()
	case "boot":
		return d.Boot(x.c)
	}
	panic("no such step: " + x.call)
}

// in does it in a model.
func (x step) in(m *model) api.Errno {
	switch x.call {
	case "create":
		return m.create(x.s)
	case "append":
		return m.append(x.s, x.text)
	case "sync":
		return m.sync(x.s)
	case "cut":
		return m.cut(x.s, x.n)
	case "rename":
		return m.rename(x.s, x.text)
	case "remove":
		return m.remove(x.s)
	case "dirsync":
		return m.dirSync()
	case "arm":
		return m.arm(x.n)
	case "off":
		m.on = false
		return api.OK
	case "boot":
		return m.boot(x.c)
	}
	panic("no such step: " + x.call)
}

// all is the names that the steps of the tests speak of, and some that no file has.
var all = []string{"a", "b", "c", "d-1", "zz.z", "A", "", "x"}

// agree tells whether all that can be asked of a disk is as the model has it.
func agree(t *testing.T, d *Disk, m *model, told ...any) bool {
	t.Helper()
	var names []string
	pending, used := 0, 0
	if m.on {
		for _, x := range m.row() {
			names = append(names, x.name)
		}
		pending, used = len(m.rows)-1, m.used()
	}
	if l := d.List(); !slices.Equal(l, names) {
		t.Error("List:", l, "want:", names, told)
		return false
	}
	if d.On() != m.on || d.Ops() != m.ops || d.Capacity() != m.capacity || d.Pending() != pending || d.Used() != used {
		t.Error("On, Ops, Capacity, Pending, Used:", d.On(), d.Ops(), d.Capacity(), d.Pending(), d.Used(), "want:", m.on, m.ops, m.capacity, pending, used, told)
		return false
	}
	for _, s := range append(names, all...) {
		want, err := m.read(s)
		if got, e := d.Read(s); got != want || e != err {
			t.Errorf("Read of %q: %q, %d, want %q, %d: %v", s, got, int(e), want, int(err), told)
			return false
		}
	}
	return true
}

// both does steps on a disk and in a model, and asks all of both behind each.
func both(t *testing.T, d *Disk, m *model, l ...step) bool {
	t.Helper()
	for i, x := range l {
		if got, want := x.on(d), x.in(m); got != want {
			t.Error(x.call, "tells", int(got), "want", int(want), "of step", i, "of", l)
			return false
		}
		if !agree(t, d, m, "behind step", i, "of", l) {
			return false
		}
	}
	return true
}
