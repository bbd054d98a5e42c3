package volume

import (
	"slices"

	"stillage/alloc"
	"stillage/api"
	"stillage/planes"
	"stillage/sets"
	"stillage/tables"
	"stillage/tree"
)

// point makes a consistency point of the tree as it is, with these snapshots; one that is new has its name alone.
func (v *Volume) point(snaps []api.Snap) (e api.Errno) {
	defer func() {
		switch x := recover().(type) {
		case nil:
		case api.Errno:
			e = v.note(x)
		default:
			panic(x)
		}
	}()
	next := v.lay(snaps)
	check(v.blocks.Commit(next.root.text()))
	_, next.number = v.blocks.Root()
	if v.log.Start(next.number) != api.OK {
		// What would be noted in the log from here on would not count, as it has not the root's number.
		panic(api.ErrDead)
	}
	v.last = next
	return api.OK
}

// lay lays all that a point's root names, and tells what would stand in blocks then.
func (v *Volume) lay(snaps []api.Snap) *state {
	was, nodes := v.last, v.tree.Nodes()
	pool := must(alloc.New(was.planes.Used(), v.blocks.Blocks(), was.root.place))
	b := &builder{target: v.blocks, pool: pool, was: was}
	s := &state{}

	inodes := b.storeNodes(nodes)
	s.nodes = pairs(nodes, inodes)
	s.root.table = b.store(was.root.table, must(tables.Inodes(inodes)))

	s.snaps, s.root.next = b.number(snaps, s.root.table)
	s.root.snaps = b.store(was.root.snaps, must(tables.Snaps(s.snaps)))

	s.planes = b.mark(s)
	s.root.planes = b.store(api.Blob{}, s.planes.Text())
	s.root.place = pool.Next()
	return s
}

// builder lays what a point makes; a step that fails panics with its error.
type builder struct {
	target api.Target
	pool   *alloc.Pool
	was    *state // what stands in blocks so far
}

// store stores bytes over an old blob.
func (b *builder) store(old api.Blob, data string) api.Blob {
	return must(tree.Store(b.target, old, data, b.pool))
}

// storeNodes stores the bytes of nodes, and tells their inodes.
func (b *builder) storeNodes(nodes []api.Node) []api.Inode {
	var l []api.Inode
	for _, n := range nodes {
		blob := b.store(b.was.nodes[n.Num].blob, n.Data)
		l = append(l, api.Inode{Num: n.Num, Dir: n.Dir, Links: n.Links, Blob: blob})
	}
	return l
}

// number gives a snapshot that is new all but its name; it tells all of them, and the number of the next one.
func (b *builder) number(snaps []api.Snap, table api.Blob) ([]api.Snap, int) {
	l, next := slices.Clone(snaps), b.was.root.next
	for i, x := range l {
		if x.Id == 0 {
			l[i] = api.Snap{Name: x.Name, Id: next, Plane: leastPlane(l), Table: table}
			next++
		}
	}
	return l, next
}

// leastPlane is the least one that no snapshot has.
func leastPlane(l []api.Snap) int {
	// Plane 0 is that of the tree as it is; a snapshot that is new has no other one yet.
	p := 1
	for slices.ContainsFunc(l, func(x api.Snap) bool { return x.Plane == p }) {
		p++
	}
	return p
}

// mark is the map of what a state's root names, itself and the map's own blocks among them.
func (b *builder) mark(s *state) *planes.Map {
	m := must(planes.New(b.was.planes.Blocks()))
	reach := must(Reach(b.target, s.root.table))
	for _, x := range s.snaps {
		set := reach
		if x.Id < b.was.root.next {
			set = must(b.was.planes.Plane(x.Plane))
		}
		check(m.Put(x.Plane, set))
	}
	own := append(must(tree.Reach(b.target, s.root.snaps)), b.ahead(b.was.house())...)
	check(m.Put(0, sets.Or(reach, must(sets.Of(own)))))
	return m
}

// ahead are the blocks that are taken next, so many.
func (b *builder) ahead(many int) []int {
	used := sets.Or(b.was.planes.Used(), b.pool.Taken())
	l, _, e := alloc.Pick(used, b.was.planes.Blocks(), b.pool.Next(), many)
	check(e)
	return l
}

// must is what a step answers; check is for one that answers an error alone.
func must[T any](x T, e api.Errno) T {
	check(e)
	return x
}

func check(e api.Errno) {
	if e != api.OK {
		panic(e)
	}
}
