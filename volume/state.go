package volume

import (
	"slices"
	"strings"

	"stillage/api"
	"stillage/blocks"
	"stillage/files"
	"stillage/planes"
	"stillage/sets"
	"stillage/tables"
	"stillage/tree"
	"stillage/wire"
)

const maxNumber = 1<<40 + 1 // of those of which a root is made: that behind a snapshot's greatest one

// state is what stands in blocks since a point.
type state struct {
	number int // of the root
	root   root
	nodes  map[int]stored // by their numbers
	snaps  []api.Snap     // by rising Id
	planes *planes.Map
}

// stored is a node, and where its bytes stand.
type stored struct {
	node api.Node
	blob api.Blob
}

// root is what a volume's root says.
type root struct {
	table, snaps, planes api.Blob
	place                int // where free blocks are sought next
	next                 int // the number that the next snapshot gets
}

// blank is the state ahead of a volume's first point.
func blank(blocks int) (*state, api.Errno) {
	m, e := planes.New(blocks)
	return &state{root: root{place: 1, next: 1}, planes: m}, e
}

// read is what the root of some blocks names, and the tree.
func read(b *blocks.Vol) (*state, *files.Tree, api.Errno) {
	text, number := b.Root()
	r, ok := parse(text)
	if !ok || r.place < 1 || r.place > b.Blocks() || r.next < 1 {
		return nil, nil, api.ErrVolumeForm
	}
	inodes, e := readInodes(b, r.table)
	if e != api.OK {
		return nil, nil, e
	}
	t, e := readTree(b, inodes)
	if e != api.OK {
		return nil, nil, e
	}
	snaps, e := readSnaps(b, r)
	if e != api.OK {
		return nil, nil, e
	}
	m, e := readPlanes(b, r)
	if e != api.OK {
		return nil, nil, e
	}
	return &state{number, r, pairs(t.Nodes(), inodes), snaps, m}, t, api.OK
}

// numbers are those of which a root is made, in order.
func (r *root) numbers() []*int {
	return []*int{
		&r.table.Root, &r.table.Size,
		&r.snaps.Root, &r.snaps.Size,
		&r.planes.Root, &r.planes.Size,
		&r.place, &r.next,
	}
}

// text is the root that says so.
func (r root) text() string {
	var s []string
	for _, n := range r.numbers() {
		// Each of them has bytes.
		one, _ := wire.Num(*n)
		s = append(s, one)
	}
	return strings.Join(s, "")
}

// parse is what a root says; not ok, if it is no volume's.
func parse(s string) (r root, ok bool) {
	in := wire.New(s)
	for _, n := range r.numbers() {
		*n, _ = in.Num(maxNumber)
	}
	return r, in.End() == api.OK
}

// pairs are nodes and where their bytes stand; the inodes are theirs, in the same order.
func pairs(nodes []api.Node, inodes []api.Inode) map[int]stored {
	all := map[int]stored{}
	for i, n := range nodes {
		all[n.Num] = stored{n, inodes[i].Blob}
	}
	return all
}

// readInodes are the inodes of a table.
func readInodes(s api.Source, table api.Blob) ([]api.Inode, api.Errno) {
	text, e := tree.Load(s, table)
	if e != api.OK {
		return nil, e
	}
	l, e := tables.ParseInodes(text)
	if e != api.OK {
		return nil, api.ErrVolumeForm
	}
	return l, api.OK
}

// readTree is the tree of inodes.
func readTree(s api.Source, l []api.Inode) (*files.Tree, api.Errno) {
	var nodes []api.Node
	for _, x := range l {
		data, e := tree.Load(s, x.Blob)
		if e != api.OK {
			return nil, e
		}
		nodes = append(nodes, api.Node{Num: x.Num, Dir: x.Dir, Links: x.Links, Data: data})
	}
	t, e := files.From(nodes)
	if e != api.OK {
		return nil, api.ErrVolumeForm
	}
	return t, api.OK
}

// readSnaps are the snapshots that a root names.
func readSnaps(b *blocks.Vol, r root) ([]api.Snap, api.Errno) {
	text, e := tree.Load(b, r.snaps)
	if e != api.OK {
		return nil, e
	}
	l, e := tables.ParseSnaps(text)
	if e != api.OK {
		return nil, e
	}
	for i, x := range l {
		// Each has a plane of its own: there are no more of them than planes.
		alike := func(y api.Snap) bool { return x.Name == y.Name || x.Plane == y.Plane }
		if x.Id >= r.next || slices.ContainsFunc(l[:i], alike) {
			return nil, api.ErrVolumeForm
		}
	}
	return l, api.OK
}

// readPlanes is the map that a root names.
func readPlanes(b *blocks.Vol, r root) (*planes.Map, api.Errno) {
	text, e := tree.Load(b, r.planes)
	if e != api.OK {
		return nil, e
	}
	m, e := planes.Parse(text)
	if e != api.OK {
		return nil, e
	}
	if m.Blocks() != b.Blocks() {
		return nil, api.ErrVolumeForm
	}
	return m, api.OK
}

// Load is the tree whose inodes stand in a blob.
func Load(s api.Source, table api.Blob) (*files.Tree, api.Errno) {
	l, e := readInodes(s, table)
	if e != api.OK {
		return nil, e
	}
	return readTree(s, l)
}

// Reach is the set of all blocks of such a tree.
func Reach(s api.Source, table api.Blob) (string, api.Errno) {
	l, e := readInodes(s, table)
	if e != api.OK {
		return "", e
	}
	all, e := tree.Reach(s, table)
	if e != api.OK {
		return "", e
	}
	for _, x := range l {
		one, e := tree.Reach(s, x.Blob)
		if e != api.OK {
			return "", e
		}
		all = append(all, one...)
	}
	set, e := sets.Of(all)
	if e != api.OK {
		return "", api.ErrVolumeForm
	}
	return set, api.OK
}
