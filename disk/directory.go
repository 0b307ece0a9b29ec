package disk

import (
	"maps"
	"slices"

	"varve/file"
)

// directory is names, and their files.
type directory map[string]*file.File

// names tells them in order.
func (l directory) names() []string { return slices.Sorted(maps.Keys(l)) }

// bytes tells how many the files have together.
func (l directory) bytes() int {
	n := 0
	for _, f := range l {
		n += len(f.Now)
	}
	return n
}

// fall leaves of each loose file what its cut and its mark say.
func (l directory) fall(cuts []int, marks []string) {
	at := 0
	for _, s := range l.names() {
		f := l[s]
		if file.Loose(*f) {
			*f = file.Fall(*f, item(cuts, at), item(marks, at))
			at++
		}
	}
}

// item is the item of a list at a place: a plain one where the list has no more.
func item[T any](l []T, at int) T {
	var none T
	if at >= len(l) {
		return none
	}
	return l[at]
}

// change is what is done to a directory. It asks nothing of the directory but what stands in it: that is why it can be done to another one later.
type change func(directory)

// more is a name that has come, with its file.
type more struct {
	name string
	file *file.File
}

func (m more) in(l directory) { l[m.name] = m.file }

// less is a name that is gone.
type less struct{ name string }

func (g less) in(l directory) { delete(l, g.name) }

// moved is a file that has another name now.
type moved struct{ from, to string }

func (m moved) in(l directory) {
	l[m.to] = l[m.from]
	delete(l, m.from)
}
