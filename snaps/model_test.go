package snaps_test

import (
	"fmt"
	"math/rand"
	"slices"
	"strings"
	"testing"

	"stillage/api"
	"stillage/commands"
	"stillage/disk"
	"stillage/sets"
	"stillage/snaps"
	"stillage/volume"
)

const maxSnaps = 7

// past is a snapshot as it was when it was made.
type past struct {
	name  string
	id    int
	nodes []api.Node
	plane string
}

// pair is a volume, its disks, and what its snapshots were when they were made, by rising numbers.
type pair struct {
	v     *volume.Volume
	d, nv *disk.Disk
	pasts []past
}

// newPair is a volume of so many blocks, on which lines were done.
func newPair(t testing.TB, blocks int, lines ...string) *pair {
	t.Helper()
	d, e := disk.New(4 * blocks)
	fine(t, e)
	nv, e := disk.New(43)
	fine(t, e)
	v, e := volume.Format(d, nv)
	fine(t, e)
	return (&pair{v: v, d: d, nv: nv}).lines(t, lines...)
}

// lines does commands that are answered OK, or makes a point.
func (p *pair) lines(t testing.TB, l ...string) *pair {
	t.Helper()
	for _, s := range l {
		if e := p.does(t, s); e != api.OK {
			t.Fatalf("%.60s: %d", s, e)
		}
	}
	return p
}

// does does a command, or makes a point.
func (p *pair) does(t testing.TB, line string) api.Errno {
	t.Helper()
	if line == "point" {
		return p.v.Point()
	}
	c := command(t, line)
	e := p.v.Do(c)
	if e != api.OK {
		return e
	}
	switch c.Kind {
	case api.CmdSnap:
		all := p.v.Snaps()
		x := all[len(all)-1]
		plane, e := p.v.Map().Plane(x.Plane)
		fine(t, e)
		p.pasts = append(p.pasts, past{c.Path, x.Id, p.v.Tree().Nodes(), plane})
	case api.CmdUnsnap:
		p.forget(c.Path)
	}
	return e
}

// forget takes snapshots away from the model.
func (p *pair) forget(names ...string) {
	p.pasts = slices.DeleteFunc(slices.Clone(p.pasts), func(x past) bool { return slices.Contains(names, x.name) })
}

func (p *pair) clone() *pair {
	d, nv := p.d.Clone(), p.nv.Clone()
	return &pair{p.v.Clone(d, nv), d, nv, slices.Clone(p.pasts)}
}

// mounted is another one, of what stands on clones of the disks.
func (p *pair) mounted(t testing.TB) *pair {
	t.Helper()
	d, nv := p.d.Clone(), p.nv.Clone()
	v, e := volume.Mount(d, nv)
	fine(t, e)
	return &pair{v, d, nv, slices.Clone(p.pasts)}
}

// names are those of the snapshots that must be there, by rising numbers.
func (p *pair) names() (l []string) {
	for _, x := range p.pasts {
		l = append(l, x.name)
	}
	return l
}

// at is the past of a name.
func (p *pair) at(name string) (past, bool) {
	i := slices.IndexFunc(p.pasts, func(x past) bool { return x.name == name })
	if i < 0 {
		return past{}, false
	}
	return p.pasts[i], true
}

// holds holds all that is told of the snapshots against what they were.
func (p *pair) holds(t testing.TB) {
	t.Helper()
	var l []string
	for _, x := range p.v.Snaps() {
		l = append(l, fmt.Sprint(x.Name, " ", x.Id))
	}
	var want []string
	for _, x := range p.pasts {
		want = append(want, fmt.Sprint(x.name, " ", x.id))
	}
	same(t, "Snaps", l, want)
	for _, name := range append(p.names(), "never") {
		p.holdsTree(t, name)
		for _, base := range append(p.names(), "never", "") {
			p.holdsDiff(t, base, name)
		}
	}
}

// holdsTree holds Tree against the model.
func (p *pair) holdsTree(t testing.TB, name string) {
	t.Helper()
	x, ok := p.at(name)
	f, e := snaps.Tree(p.v, name)
	if !ok {
		if f != nil || e != api.ErrSnapNone {
			t.Fatalf("Tree of %.20q: %d", name, e)
		}
		return
	}
	fine(t, e)
	same(t, "the tree of "+name, f.Nodes(), x.nodes)
}

// holdsDiff holds Diff against the model.
func (p *pair) holdsDiff(t testing.TB, base, target string) {
	t.Helper()
	x, ok := p.at(target)
	y, there := p.at(base)
	add, take, e := snaps.Diff(p.v, base, target)
	if !ok || !there && base != "" {
		if add != "" || take != "" || e != api.ErrSnapNone {
			t.Fatalf("Diff of %.20q and %.20q: %d", base, target, e)
		}
		return
	}
	fine(t, e)
	same(t, fmt.Sprintf("what %s has and %q has not", target, base), add, without(x.plane, y.plane))
	same(t, fmt.Sprintf("what %q has and %s has not", base, target), take, without(y.plane, x.plane))
	same(t, "the base's blocks, with what is added, without what is taken", sets.Minus(sets.Or(y.plane, add), take), x.plane)
}

// without is the least text of the numbers of one set that another one has not.
func without(a, b string) string {
	var l []int
	for n := range 8 * len(a) {
		if has(a, n) && !has(b, n) {
			l = append(l, n)
		}
	}
	set := make([]byte, 0)
	for _, n := range l {
		for len(set) <= n/8 {
			set = append(set, 0)
		}
		set[n/8] |= 1 << (n % 8)
	}
	return string(set)
}

// has tells whether a number is in a set.
func has(s string, n int) bool { return n/8 < len(s) && s[n/8]>>(n%8)&1 == 1 }

// expires does Expire, and holds it against a clone on which the commands are done one by one.
func (p *pair) expires(t testing.TB, keep []string, locks *snaps.Locks) ([]string, api.Errno) {
	t.Helper()
	q := p.clone()
	var want []string
	wantE := api.OK
	for _, x := range p.pasts {
		if slices.Contains(keep, x.name) || slices.Contains(locks.List(), x.name) {
			continue
		}
		if wantE = q.does(t, "unsnap "+x.name); wantE != api.OK {
			break
		}
		want = append(want, x.name)
	}
	locked, kept := locks.List(), slices.Clone(keep)
	gone, e := snaps.Expire(p.v, keep, locks)
	if !slices.Equal(gone, want) || e != wantE {
		t.Fatalf("Expire but %.200q, %q: %q %d, not %q %d", fmt.Sprint(keep[:min(len(keep), 10)]), locked, gone, e, want, wantE)
	}
	same(t, "the locked names", locks.List(), locked)
	if !slices.Equal(keep, kept) {
		t.Fatal("the list that was handed in is another one")
	}
	p.forget(gone...)
	p.like(t, q)
	return gone, e
}

// like fails, if a volume is not as another one, on disks that are not as its.
func (p *pair) like(t testing.TB, q *pair) {
	t.Helper()
	same(t, "Snaps", p.v.Snaps(), q.v.Snaps())
	same(t, "Tree", p.v.Tree().Nodes(), q.v.Tree().Nodes())
	same(t, "Map", p.v.Map().Text(), q.v.Map().Text())
	same(t, "Number, Free, Dead", fmt.Sprint(p.v.Number(), p.v.Free(), p.v.Dead()), fmt.Sprint(q.v.Number(), q.v.Free(), q.v.Dead()))
	alike(t, p.d, q.d)
	alike(t, p.nv, q.nv)
}

// alike fails, if a disk is not as another one.
func alike(t testing.TB, d, other *disk.Disk) {
	t.Helper()
	if d.Image() != other.Image() || d.Loose() != other.Loose() || d.Steps() != other.Steps() || d.Dead() != other.Dead() {
		t.Fatal("the disks are not alike")
	}
}

// locked are locks of names, each as often as it is there.
func locked(t testing.TB, names ...string) *snaps.Locks {
	t.Helper()
	l := snaps.New()
	for _, name := range names {
		fine(t, l.Lock(name))
	}
	return l
}

// byChance is a line, such as may be done more often than not.
func (p *pair) byChance(chance *rand.Rand) string {
	files := []string{"/a", "/b", "/c", "/d"}
	name := files[chance.Intn(len(files))]
	n, e := p.v.Tree().Get(name)
	switch k := chance.Intn(20); {
	case e != api.OK && k < 12:
		return "make " + name
	case k < 10:
		return write(name, chance.Intn(len(n.Data)+1), text(chance.Intn(500), chance.Intn(99)))
	case k < 12:
		return fmt.Sprint("cut ", name, " ", chance.Intn(len(n.Data)+1))
	case k < 13:
		return "remove " + name
	case k < 14:
		return "point"
	case k < 19 || len(p.pasts) == 0:
		return fmt.Sprint("snap s", chance.Intn(12))
	default:
		return "unsnap " + p.pasts[chance.Intn(len(p.pasts))].name
	}
}

// some are some of a list's names, and some others.
func some(chance *rand.Rand, l []string) (names []string) {
	for _, name := range append(slices.Clone(l), "never", "n.0") {
		if chance.Intn(2) == 0 {
			names = append(names, name)
		}
	}
	chance.Shuffle(len(names), func(i, j int) { names[i], names[j] = names[j], names[i] })
	return names
}

// show is all of something; a nil list is as good as an empty one.
func show(x any) string { return strings.ReplaceAll(fmt.Sprintf("%#v", x), "(nil)", "{}") }

// same fails, if what a call answered is not what it should.
func same(t testing.TB, what string, got, want any) {
	t.Helper()
	if g, w := show(got), show(want); g != w {
		t.Fatalf("%s: %.300s, not %.300s", what, g, w)
	}
}

// fine fails, if one of some calls was not answered OK.
func fine(t testing.TB, answers ...api.Errno) {
	t.Helper()
	for i, e := range answers {
		if e != api.OK {
			t.Fatalf("call %d: %d", i, e)
		}
	}
}

// command is that of a line.
func command(t testing.TB, line string) api.Command {
	t.Helper()
	c, e := commands.Parse(line)
	if e != api.OK {
		t.Fatalf("%.60s: %d", line, e)
	}
	return c
}

// text is one of so many bytes.
func text(n, seed int) string {
	b := make([]byte, n)
	for i := range b {
		b[i] = byte(seed*31 + i*7 + i/240*13)
	}
	return string(b)
}

// write is the line of bytes that are written.
func write(path string, at int, data string) string {
	if data == "" {
		return fmt.Sprintf("write %s %d -", path, at)
	}
	return fmt.Sprintf("write %s %d %x", path, at, data)
}
