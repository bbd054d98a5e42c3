package volume

import (
	"slices"
	"strings"

	"stillage/alloc"
	"stillage/api"
	"stillage/commands"
	"stillage/files"
	"stillage/tree"
)

// The bytes of a table, at most: of how many inodes there are, and of each.
const (
	tableSize = 2
	inodeSize = 12
)

// plan is what a command would make of a volume.
type plan struct {
	kind  int
	line  string
	noted bool // in the log: it is a command on files
	tree  *files.Tree
	// snaps are the snapshots; one that would be new has its name alone.
	snaps []api.Snap
}

// plan is what a command would make of the volume as it is, if it may be done.
func (v *Volume) plan(c api.Command) (plan, api.Errno) {
	line, e := commands.Print(c)
	if e != api.OK {
		return plan{}, api.ErrArg
	}
	if v.dead {
		return plan{}, api.ErrDead
	}
	p := plan{kind: c.Kind, line: line, tree: v.tree, snaps: v.last.snaps}
	switch c.Kind {
	case api.CmdSnap:
		p.snaps, e = with(p.snaps, c.Path)
	case api.CmdUnsnap:
		p.snaps, e = without(p.snaps, c.Path)
	default:
		p.noted = true
		p.tree = v.tree.Clone()
		e = p.tree.Do(c)
	}
	return p, e
}

// with are snapshots, and a new one.
func with(l []api.Snap, name string) ([]api.Snap, api.Errno) {
	if slices.ContainsFunc(l, named(name)) {
		return nil, api.ErrSnapThere
	}
	if len(l) >= api.MaxSnaps {
		return nil, api.ErrTooMany
	}
	// Memory of its own: the name may be a piece of a long text.
	return append(slices.Clone(l), api.Snap{Name: strings.Clone(name)}), api.OK
}

// without are snapshots, but one of them.
func without(l []api.Snap, name string) ([]api.Snap, api.Errno) {
	if !slices.ContainsFunc(l, named(name)) {
		return nil, api.ErrSnapNone
	}
	return slices.DeleteFunc(slices.Clone(l), named(name)), api.OK
}

// named tells of a snapshot whether it has a name.
func named(name string) func(x api.Snap) bool {
	return func(x api.Snap) bool { return x.Name == name }
}

// makeRoom tells whether a plan fits; if it does not as things stand, what was done so far comes to a point ahead of that.
func (v *Volume) makeRoom(p plan) api.Errno {
	if v.fits(p) {
		return api.OK
	}
	if !v.last.differs(v.tree.Nodes()) {
		// A point would help nothing.
		return api.ErrNoSpace
	}
	if e := v.Point(); e != api.OK {
		return e
	}
	if !v.fits(p) {
		return api.ErrNoSpace
	}
	return api.OK
}

// fits tells whether there is room for a plan.
func (v *Volume) fits(p plan) bool { return v.need(p) <= v.Free() }

// need is how many blocks a plan needs at most.
func (v *Volume) need(p plan) int {
	return v.last.needs(p.tree.Nodes()) + spares(p.kind, v.last.house())
}

// spares is how many blocks a kind of commands leaves to those behind it.
func spares(kind, house int) int {
	switch kind {
	case api.CmdUnsnap:
		return 0
	case api.CmdCut, api.CmdRemove:
		return house + 2
	default:
		return 2*house + 16
	}
}

// needs is how many blocks the next point takes at most, of a tree of these nodes.
func (s *state) needs(nodes []api.Node) int {
	// However many snapshots there are, their bytes have room in a block.
	many := s.house() + 1
	for _, n := range nodes {
		many += cost(s.nodes[n.Num].node.Data, n.Data)
	}
	if s.differs(nodes) {
		many += shape(tableSize + inodeSize*len(nodes))
	}
	return many
}

// differs tells whether nodes are others than those in blocks.
func (s *state) differs(nodes []api.Node) bool {
	return len(nodes) != len(s.nodes) || slices.ContainsFunc(nodes, func(n api.Node) bool {
		return s.nodes[n.Num].node != n
	})
}

// house is how many blocks the map takes.
func (s *state) house() int { return shape(s.planes.Blocks()) }

// cost is how many blocks bytes take that are stored over the tree of others.
func cost(old, data string) int {
	// Most nodes are what they were, and take nothing.
	if old == data {
		return 0
	}
	// What is shared hangs on the bytes alone, not on where they stand: both trees are stored in memory, one over the other.
	room := 1 + 2*shape(api.MaxFile)
	target := make(shelf, room)
	p, _ := alloc.New("", room, 1)
	blob, _ := tree.Store(target, api.Blob{}, old, p)
	left := p.Left()
	tree.Store(target, blob, data, p)
	return left - p.Left()
}

// shape is how many blocks so many bytes take, if a tree may have so many.
func shape(size int) int {
	many, _ := tree.Shape(size)
	return many
}

// shelf are payloads in memory, by their blocks' numbers.
type shelf []string

// Read is what a block carries.
func (s shelf) Read(vbn int) (string, api.Errno) { return s[vbn], api.OK }

// Write lays what a block carries.
func (s shelf) Write(vbn int, payload string) api.Errno {
	s[vbn] = payload
	return api.OK
}
