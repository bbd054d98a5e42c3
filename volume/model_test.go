package volume_test

import (
	"cmp"
	"fmt"
	"maps"
	"slices"
	"strings"
	"testing"

	"stillage/alloc"
	"stillage/api"
	"stillage/blocks"
	"stillage/commands"
	"stillage/disk"
	"stillage/files"
	"stillage/nvlog"
	"stillage/sets"
	"stillage/tables"
	"stillage/tree"
	"stillage/volume"
)

const (
	chunk      = 240
	perFork    = 60 // pointers of a pointer block
	logSectors = 43
	maxSnaps   = 7
)

// model is a volume by the words of the document, in memory.
type model struct {
	blocks   int
	payloads map[int]string
	log      []string
	tree     *files.Tree

	// What stands since the last point.
	number      int
	nodes       map[int]api.Node
	inodes      map[int]api.Blob
	table       api.Blob
	list        api.Blob
	mapped      api.Blob
	place, next int
	snaps       []api.Snap
	planes      [maxSnaps + 1]map[int]bool
}

// newModel is what Format makes.
func newModel(blocks int) *model {
	m := &model{blocks: blocks, payloads: map[int]string{}, tree: files.New(), number: 1, place: 1, next: 1}
	m.point(nil)
	return m
}

func (m *model) clone() *model {
	c := *m
	c.payloads, c.log, c.tree = maps.Clone(m.payloads), slices.Clone(m.log), m.tree.Clone()
	return &c
}

// Read and Write make the model a target.
func (m *model) Read(vbn int) (string, api.Errno) {
	s, ok := m.payloads[vbn]
	if !ok {
		return "", api.ErrBlockSum
	}
	return s, api.OK
}

func (m *model) Write(vbn int, payload string) api.Errno {
	m.payloads[vbn] = payload
	return api.OK
}

// used are the blocks that some plane has.
func (m *model) used() map[int]bool {
	all := map[int]bool{}
	for _, p := range m.planes {
		maps.Copy(all, p)
	}
	return all
}

func (m *model) free() int { return m.blocks - 1 - len(m.used()) }

// setOf is the least text of a set.
func setOf(l map[int]bool) string {
	s, _ := sets.Of(slices.Collect(maps.Keys(l)))
	return s
}

// reach are all blocks of some blobs.
func (m *model) reach(l ...api.Blob) map[int]bool {
	all := map[int]bool{}
	for _, b := range l {
		numbers, e := tree.Reach(m, b)
		if e != api.OK {
			panic(e)
		}
		for _, n := range numbers {
			all[n] = true
		}
	}
	return all
}

// point makes one; it tells whether there was room.
func (m *model) point(snaps []api.Snap) bool {
	used := m.used()
	pool, e := alloc.New(setOf(used), m.blocks, m.place)
	store := func(old api.Blob, data string) (b api.Blob) {
		if e == api.OK {
			b, e = tree.Store(m, old, data, pool)
		}
		return b
	}
	next := *m
	next.nodes, next.inodes = map[int]api.Node{}, map[int]api.Blob{}
	var l []api.Inode
	for _, n := range m.tree.Nodes() {
		b := store(m.inodes[n.Num], n.Data)
		l = append(l, api.Inode{Num: n.Num, Dir: n.Dir, Links: n.Links, Blob: b})
		next.nodes[n.Num], next.inodes[n.Num] = n, b
	}
	text, _ := tables.Inodes(l)
	next.table = store(m.table, text)
	if e != api.OK {
		return false
	}
	tree := append(slices.Collect(maps.Values(next.inodes)), next.table)
	next.take(snaps, m.reach(tree...))
	text, _ = tables.Snaps(next.snaps)
	next.list = store(m.list, text)
	if e != api.OK {
		return false
	}
	next.planes[0] = m.reach(append(tree, next.list)...)
	// The map's blocks are in the map: where they will be is tried with noughts, in another pool.
	again, _ := alloc.New(sets.Or(setOf(used), pool.Taken()), m.blocks, pool.Next())
	tried := m.clone()
	house, e := tryStore(tried, strings.Repeat("\x00", m.blocks), again)
	if e != api.OK {
		return false
	}
	maps.Copy(next.planes[0], tried.reach(house))
	next.mapped = store(api.Blob{}, next.text())
	next.place, next.number, next.log = pool.Next(), m.number+1, nil
	*m = next
	return true
}

func tryStore(m *model, s string, p *alloc.Pool) (api.Blob, api.Errno) {
	return tree.Store(m, api.Blob{}, s, p)
}

// take makes these the snapshots; the one that is new has no number.
func (m *model) take(snaps []api.Snap, reach map[int]bool) {
	was := m.planes
	m.planes = [maxSnaps + 1]map[int]bool{}
	m.snaps = nil
	for _, x := range snaps {
		if x.Id != 0 {
			m.planes[x.Plane] = was[x.Plane]
			m.snaps = append(m.snaps, x)
		}
	}
	for _, x := range snaps {
		if x.Id == 0 {
			p := 1
			for m.planes[p] != nil {
				p++
			}
			m.planes[p] = maps.Clone(reach)
			m.snaps = append(m.snaps, api.Snap{Name: x.Name, Id: m.next, Plane: p, Table: m.table})
			m.next++
		}
	}
}

// text is the map's.
func (m *model) text() string {
	b := make([]byte, m.blocks)
	for p, l := range m.planes {
		for n := range l {
			b[n] |= 1 << p
		}
	}
	return string(b)
}

// number are the bytes of a number.
func number(n int) string {
	var b []byte
	for ; n >= 128; n /= 128 {
		b = append(b, byte(n%128+128))
	}
	return string(append(b, byte(n)))
}

// numbers are those of some, one behind the other.
func numbers(l ...int) string {
	s := ""
	for _, n := range l {
		s += number(n)
	}
	return s
}

// root is the root's text.
func (m *model) root() string {
	return numbers(m.table.Root, m.table.Size, m.list.Root, m.list.Size, m.mapped.Root, m.mapped.Size, m.place, m.next)
}

// shape is how many blocks so many bytes take.
func shape(size int) int {
	chunks := (size + chunk - 1) / chunk
	switch {
	case chunks <= 1:
		return chunks
	case chunks <= perFork:
		return chunks + 1
	default:
		return chunks + (chunks+perFork-1)/perFork + 1
	}
}

// cost is how many blocks bytes take in the place of others.
func cost(old, data string) int {
	chunks := func(s string) [][]byte { return slices.Collect(slices.Chunk([]byte(s), chunk)) }
	was, now := chunks(old), chunks(data)
	levels := func(l [][]byte) int { return min(len(l), 2) + len(l)/(perFork+1) }
	alike := func(a, b [][]byte) bool {
		return slices.EqualFunc(a, b, func(x, y []byte) bool { return string(x) == string(y) })
	}
	n := 0
	for i := range now {
		if i >= len(was) || !alike(was[i:i+1], now[i:i+1]) {
			n++
		}
	}
	if len(now) <= 1 {
		return n
	}
	if min(levels(was), 3) != min(levels(now), 3) {
		return n + shape(len(data)) - len(now)
	}
	for at := 0; at < len(now); at += perFork {
		mine := func(l [][]byte) [][]byte { return l[min(at, len(l)):min(at+perFork, len(l))] }
		if !alike(mine(was), mine(now)) {
			n++
		}
	}
	if len(now) > perFork && !alike(was, now) {
		n++
	}
	return n
}

// differs tells whether nodes are others than at the last point.
func (m *model) differs(l []api.Node) bool {
	at := map[int]api.Node{}
	for _, n := range l {
		at[n.Num] = n
	}
	return !maps.Equal(at, m.nodes)
}

// needs is what a tree needs, and what a command spares.
func (m *model) needs(kind int, t *files.Tree) int {
	house := shape(m.blocks)
	n := house + 1
	l := t.Nodes()
	for _, x := range l {
		n += cost(m.nodes[x.Num].Data, x.Data)
	}
	if m.differs(l) {
		n += shape(2 + 12*len(l))
	}
	switch kind {
	case api.CmdUnsnap:
		return n
	case api.CmdCut, api.CmdRemove:
		return n + house + 2
	}
	return n + 2*house + 16
}

// wants is what a command would make of the tree and the snapshots; the error is that which is told ahead of all that has to do with room.
func (m *model) wants(c api.Command) (*files.Tree, []api.Snap, api.Errno) {
	if _, e := commands.Print(c); e != api.OK {
		return nil, nil, api.ErrArg
	}
	at := slices.IndexFunc(m.snaps, func(x api.Snap) bool { return x.Name == c.Path })
	switch c.Kind {
	case api.CmdSnap:
		if at >= 0 {
			return nil, nil, api.ErrSnapThere
		}
		if len(m.snaps) == maxSnaps {
			return nil, nil, api.ErrTooMany
		}
		return m.tree, append(slices.Clone(m.snaps), api.Snap{Name: c.Path}), api.OK
	case api.CmdUnsnap:
		if at < 0 {
			return nil, nil, api.ErrSnapNone
		}
		return m.tree, slices.Delete(slices.Clone(m.snaps), at, at+1), api.OK
	}
	t := m.tree.Clone()
	e := t.Do(c)
	return t, m.snaps, e
}

// need is what Need answers.
func (m *model) need(c api.Command) (int, api.Errno) {
	t, _, e := m.wants(c)
	if e != api.OK {
		return 0, e
	}
	return m.needs(c.Kind, t), api.OK
}

// room is how many bytes the log has left.
func (m *model) room() int {
	n := (logSectors - 1) / 2 * 64
	for _, s := range m.log {
		n -= len(s) + 2
	}
	return n
}

// do is what Do does; a point that has no room is not thought of.
func (m *model) do(c api.Command) api.Errno {
	t, snaps, e := m.wants(c)
	if e != api.OK {
		return e
	}
	line, _ := commands.Print(c)
	onFiles := c.Kind != api.CmdSnap && c.Kind != api.CmdUnsnap
	if onFiles && m.room() < len(line)+2 {
		m.point(m.snaps)
	}
	if m.needs(c.Kind, t) > m.free() && m.differs(m.tree.Nodes()) {
		m.point(m.snaps)
	}
	if m.needs(c.Kind, t) > m.free() {
		return api.ErrNoSpace
	}
	if onFiles {
		m.log, m.tree = append(m.log, line), t
	} else if !m.point(snaps) {
		return api.ErrNoSpace
	}
	return api.OK
}

// pair is a volume, its disks, and a model of it.
type pair struct {
	v     *volume.Volume
	d, nv *disk.Disk
	m     *model
}

// scratched is a disk on which something stands everywhere.
func scratched(t testing.TB, sectors int) *disk.Disk {
	t.Helper()
	b := make([]byte, 64*sectors)
	for i := range b {
		b[i] = byte(i*7 + i/64*13 + i/4096)
	}
	d, e := disk.Open(string(b))
	fine(t, e)
	return d
}

// newPair is a volume of so many blocks, just formatted.
func newPair(t testing.TB, many int) *pair {
	t.Helper()
	d, nv := scratched(t, 4*many), scratched(t, logSectors)
	v, e := volume.Format(d, nv)
	if v == nil || e != api.OK {
		t.Fatalf("Format of %d blocks: %d", many, e)
	}
	return &pair{v, d, nv, newModel(many)}
}

func (p *pair) clone() *pair {
	d, nv := p.d.Clone(), p.nv.Clone()
	return &pair{p.v.Clone(d, nv), d, nv, p.m.clone()}
}

// mounted is another volume, of what stands on clones of the disks.
func (p *pair) mounted(t testing.TB) *pair {
	t.Helper()
	d, nv := p.d.Clone(), p.nv.Clone()
	v, e := volume.Mount(d, nv)
	if v == nil || e != api.OK {
		t.Fatalf("Mount: %d", e)
	}
	return &pair{v, d, nv, p.m.clone()}
}

// does does a command on both.
func (p *pair) does(t testing.TB, c api.Command) api.Errno {
	t.Helper()
	need, e := p.v.Need(c)
	wantNeed, wantE := p.m.need(c)
	if need != wantNeed || e != wantE {
		t.Fatalf("Need(%v): %d %d, not %d %d", short(c), need, e, wantNeed, wantE)
	}
	e, wantE = p.v.Do(c), p.m.do(c)
	if e != wantE {
		t.Fatalf("Do(%v): %d, not %d", short(c), e, wantE)
	}
	return e
}

// points makes a point on both.
func (p *pair) points(t testing.TB) {
	t.Helper()
	if e := p.v.Point(); e != api.OK || !p.m.point(p.m.snaps) {
		t.Fatalf("Point: %d", e)
	}
}

// lines does commands that are answered OK, or makes a point.
func (p *pair) lines(t testing.TB, l ...string) *pair {
	t.Helper()
	for _, s := range l {
		if s == "point" {
			p.points(t)
		} else if e := p.does(t, command(t, s)); e != api.OK {
			t.Fatalf("%.60s: %d", s, e)
		}
	}
	return p
}

// show is all of something; a nil list is as good as an empty one.
func show(x any) string { return strings.ReplaceAll(fmt.Sprintf("%#v", x), "(nil)", "{}") }

// same fails, if what a call answered is not what it should.
func same(t testing.TB, what string, got, want any) {
	t.Helper()
	if g, w := show(got), show(want); g != w {
		t.Fatalf("%s: %.300s, not %.300s", what, g, w)
	}
}

// holds holds all that the volume tells against the model, and what stands on its disks.
func (p *pair) holds(t testing.TB) {
	t.Helper()
	m := p.m
	same(t, "Tree", p.v.Tree().Nodes(), m.tree.Nodes())
	same(t, "Snaps", p.v.Snaps(), m.snaps)
	same(t, "Free", p.v.Free(), m.free())
	same(t, "Number", p.v.Number(), m.number)
	same(t, "Dead", p.v.Dead(), false)
	same(t, "Map", p.v.Map().Text(), m.text())

	b, e := blocks.Open(p.d.Clone())
	fine(t, e)
	root, n := b.Root()
	same(t, "the root", root, m.root())
	same(t, "the root's number", n, m.number)
	l, e := nvlog.Open(p.nv.Clone())
	fine(t, e)
	same(t, "the log's number", l.Gen(), m.number)
	same(t, "the log", l.Records(), m.log)
	for n := range m.used() {
		s, e := b.Read(n)
		if s != m.payloads[n] || e != api.OK {
			t.Fatalf("block %d: %q %d, not %q", n, s, e, m.payloads[n])
		}
		if s, e := p.v.Read(n); s != m.payloads[n] || e != api.OK {
			t.Fatalf("Read(%d): %q %d, not %q", n, s, e, m.payloads[n])
		}
	}
}

// reaches holds the planes against what is reached from each table, and the trees of snapshots against what they were.
func (p *pair) reaches(t testing.TB, was map[int]*files.Tree) {
	t.Helper()
	all := p.v.Map()
	reached := ""
	for _, x := range p.v.Snaps() {
		set, e := volume.Reach(p.v, x.Table)
		plane, f := all.Plane(x.Plane)
		if set != plane || e != api.OK || f != api.OK {
			t.Fatalf("Reach of %s: %d", x.Name, e)
		}
		reached = sets.Or(reached, set)
		l, e := volume.Load(p.v, x.Table)
		fine(t, e)
		if was[x.Id] != nil {
			same(t, "a snapshot's tree", l.Nodes(), was[x.Id].Nodes())
		}
	}
	set, e := volume.Reach(p.v, p.m.table)
	fine(t, e)
	own := setOf(p.m.reach(p.m.list, p.m.mapped))
	plane, _ := all.Plane(0)
	same(t, "plane 0", plane, sets.Or(set, own))
	reached = sets.Or(reached, plane)
	if sets.Count(reached)+p.v.Free() != p.m.blocks-1 {
		t.Fatalf("%d are reached, %d are free", sets.Count(reached), p.v.Free())
	}
}

// fine fails if one of some calls was not answered OK.
func fine(t testing.TB, answers ...api.Errno) {
	t.Helper()
	for i, e := range answers {
		if e != api.OK {
			t.Fatalf("call %d: %d", i, e)
		}
	}
}

// command is that of a line.
func command(t testing.TB, line string) api.Command {
	t.Helper()
	c, e := commands.Parse(line)
	if e != api.OK {
		t.Fatalf("%.60s: %d", line, e)
	}
	return c
}

// short is what something is, but not more than can be read.
func short(x any) string { return fmt.Sprintf("%.80q", fmt.Sprint(x)) }

// text is one of so many bytes, no chunk of which is like another one.
func text(n, seed int) string {
	b := make([]byte, n)
	for i := range b {
		b[i] = byte(seed*31 + i*7 + i/chunk*13 + i/256)
	}
	return string(b)
}

// write is the line of bytes that are written.
func write(path string, at int, data string) string {
	if data == "" {
		return fmt.Sprintf("write %s %d -", path, at)
	}
	return fmt.Sprintf("write %s %d %x", path, at, data)
}

// appending are the lines that make a file so long, from a length on.
func appending(path string, from, to, seed int) (l []string) {
	s := text(to, seed)
	for at := from; at < to; at += 512 {
		l = append(l, write(path, at, s[at:min(at+512, to)]))
	}
	return l
}

// told is all that a volume's tree and snapshots tell.
func told(t testing.TB, v *volume.Volume) string {
	t.Helper()
	var s strings.Builder
	s.WriteString(show(v.Tree().Nodes()))
	l := v.Snaps()
	slices.SortFunc(l, func(x, y api.Snap) int { return cmp.Compare(x.Id, y.Id) })
	for _, x := range l {
		f, e := volume.Load(v, x.Table)
		if e != api.OK {
			t.Fatalf("the snapshot %s: %d", x.Name, e)
		}
		fmt.Fprintf(&s, " %s %d %s", x.Name, x.Id, show(f.Nodes()))
	}
	return s.String()
}
