package differ_test

import (
	"fmt"
	"maps"
	"math"
	"math/rand"
	"slices"
	"testing"

	"stillage/api"
	"stillage/commands"
	"stillage/differ"
	"stillage/digest"
	"stillage/disk"
	"stillage/snaps"
	"stillage/volume"
)

const key = "stillage stream!"

// past is a snapshot as it was when it was made.
type past struct {
	name   string
	id     int
	table  api.Blob
	nodes  []api.Node
	blocks map[int]string // what each of its blocks carries
}

// pair is a volume, its disks, and what its snapshots were when they were made, by rising numbers.
type pair struct {
	v     *volume.Volume
	d, nv *disk.Disk
	pasts []past
}

// newPair is a volume of so many blocks, on which lines were done.
func newPair(t testing.TB, blocks int, lines ...string) *pair {
	t.Helper()
	d, e := disk.New(4 * blocks)
	fine(t, e)
	nv, e := disk.New(43)
	fine(t, e)
	v, e := volume.Format(d, nv)
	fine(t, e)
	return (&pair{v: v, d: d, nv: nv}).lines(t, lines...)
}

// lines does commands that are answered OK, or makes a point.
func (p *pair) lines(t testing.TB, l ...string) *pair {
	t.Helper()
	for _, s := range l {
		if e := p.does(t, s); e != api.OK {
			t.Fatalf("%.60s: %d", s, e)
		}
	}
	return p
}

// does does a command, or makes a point.
func (p *pair) does(t testing.TB, line string) api.Errno {
	t.Helper()
	if line == "point" {
		return p.v.Point()
	}
	c, e := commands.Parse(line)
	fine(t, e)
	if e = p.v.Do(c); e != api.OK {
		return e
	}
	switch c.Kind {
	case api.CmdSnap:
		p.pasts = append(p.pasts, p.present(t))
	case api.CmdUnsnap:
		p.pasts = slices.DeleteFunc(slices.Clone(p.pasts), func(x past) bool { return x.name == c.Path })
	}
	return e
}

// present is the newest snapshot, which was just made.
func (p *pair) present(t testing.TB) past {
	t.Helper()
	l := p.v.Snaps()
	x := l[len(l)-1]
	plane, e := p.v.Map().Plane(x.Plane)
	fine(t, e)
	blocks := map[int]string{}
	for _, vbn := range listOf(plane) {
		blocks[vbn], e = p.v.Read(vbn)
		fine(t, e)
	}
	return past{x.Name, x.Id, x.Table, p.v.Tree().Nodes(), blocks}
}

func (p *pair) clone() *pair {
	d, nv := p.d.Clone(), p.nv.Clone()
	return &pair{p.v.Clone(d, nv), d, nv, slices.Clone(p.pasts)}
}

// mounted is another one, of what stands on clones of the disks.
func (p *pair) mounted(t testing.TB) *pair {
	t.Helper()
	d, nv := p.d.Clone(), p.nv.Clone()
	v, e := volume.Mount(d, nv)
	fine(t, e)
	return &pair{v, d, nv, slices.Clone(p.pasts)}
}

// names are those of the snapshots that must be there, by rising numbers.
func (p *pair) names() (l []string) {
	for _, x := range p.pasts {
		l = append(l, x.name)
	}
	return l
}

// at is the past of a name; one that is not there is none of anything.
func (p *pair) at(name string) (past, bool) {
	for _, x := range p.pasts {
		if x.name == name {
			return x, true
		}
	}
	return past{}, false
}

// numbers are the blocks of a snapshot, rising.
func (x past) numbers() []int { return slices.Sorted(maps.Keys(x.blocks)) }

// shipped is a plan, and what it must tell.
type shipped struct {
	p       *pair
	plan    *differ.Plan
	head    api.Head
	records []string
}

// plans is the plan of a target over a base, which are there, held against the words.
func (p *pair) plans(t testing.TB, base, target string) shipped {
	t.Helper()
	old, _ := p.at(base)
	now, _ := p.at(target)
	plan, e := differ.New(p.v, base, target)
	fine(t, e)
	x := shipped{p: p, plan: plan}
	for _, vbn := range without(now.numbers(), old.numbers()) {
		x.records = append(x.records, laidBlock(block{vbn, now.blocks[vbn]}))
	}
	x.head = api.Head{Id: now.id, Base: old.id, Name: now.name, Table: now.table, Count: len(x.records), Drop: setOf(without(old.numbers(), now.numbers())...)}
	x.holds(t)
	x.makes(t, old, now)
	return x
}

// sumOf is the sum of records.
func sumOf(t testing.TB, l []string) string {
	t.Helper()
	h, e := digest.New(key)
	fine(t, e)
	for _, s := range l {
		h.Write(s)
	}
	return h.Sum()
}

// holds holds all that a plan tells against what it must tell.
func (x shipped) holds(t testing.TB) {
	t.Helper()
	same(t, "the head", x.plan.Head(), x.head)
	want := api.OK
	if !slices.ContainsFunc(x.p.pasts, func(y past) bool { return y.id == x.head.Id }) {
		want = api.ErrSnapNone
	}
	for i, record := range x.records {
		if want != api.OK {
			record = ""
		}
		if s, e := x.plan.Record(i); s != record || e != want {
			t.Fatalf("record %d of %d of %s: %s, %d, not %s, %d", i, len(x.records), x.head.Name, short(s), e, short(record), want)
		}
	}
	x.over(t)
	sum := sumOf(t, x.records)
	if len(x.records) == 0 {
		want = api.OK
	}
	if want != api.OK {
		sum = ""
	}
	if s, e := x.plan.Sum(); s != sum || e != want {
		t.Fatalf("the sum of %d records of %s: %x, %d, not %x, %d", len(x.records), x.head.Name, s, e, sum, want)
	}
}

// over holds that there are no more records than the head tells.
func (x shipped) over(t testing.TB) {
	t.Helper()
	n := len(x.records)
	for _, i := range []int{-1, n, n + 1, -n - 1, 4095, 4096, 1 << 32, -1 << 32, math.MaxInt, math.MinInt} {
		if s, e := x.plan.Record(i); s != "" || e != api.ErrDifferOver {
			t.Fatalf("record %d of %d: %s, %d", i, n, short(s), e)
		}
	}
}

// view is what stands in blocks at the other end.
type view map[int]string

func (v view) Read(vbn int) (string, api.Errno) {
	payload, ok := v[vbn]
	if !ok {
		return "", api.ErrBlockAt
	}
	return payload, api.OK
}

// makes holds what is made of the base and what is shipped against the target: its blocks are those that its tree reaches, no more and no fewer.
func (x shipped) makes(t testing.TB, base, target past) {
	t.Helper()
	s, e := differ.Head(x.plan.Head())
	fine(t, e)
	h, e := differ.ParseHead(s)
	fine(t, e)
	v := view(maps.Clone(base.blocks))
	if v == nil {
		v = view{}
	}
	for _, vbn := range listOf(h.Drop) {
		if _, ok := v[vbn]; !ok {
			t.Fatalf("block %d is dropped, which the base has not", vbn)
		}
		delete(v, vbn)
	}
	last := 0
	for i := range h.Count {
		s, e := x.plan.Record(i)
		fine(t, e)
		vbn, payload, e := differ.ParseRecord(s)
		fine(t, e)
		if _, ok := base.blocks[vbn]; ok || vbn <= last {
			t.Fatalf("record %d is of block %d, behind that of %d", i, vbn, last)
		}
		v[vbn], last = payload, vbn
	}
	reach, e := volume.Reach(v, h.Table)
	fine(t, e)
	same(t, "what the tree reaches", listOf(reach), slices.Sorted(maps.Keys(v)))
	f, e := volume.Load(v, h.Table)
	fine(t, e)
	same(t, "the tree", f.Nodes(), target.nodes)
}

// news holds New of all pairs of names against the words.
func (p *pair) news(t testing.TB) (l []shipped) {
	t.Helper()
	all := append(p.names(), "never", "", "A", "..")
	for _, base := range all {
		for _, target := range all {
			old, _ := p.at(base)
			now, _ := p.at(target)
			_, _, want := snaps.Diff(p.v, base, target)
			if want == api.OK && old.id >= now.id {
				want = api.ErrDifferForm
			}
			if want == api.OK {
				l = append(l, p.plans(t, base, target))
				continue
			}
			if plan, e := differ.New(p.v, base, target); plan != nil || e != want {
				t.Fatalf("New of %q over %q: %d, not %d", target, base, e, want)
			}
		}
	}
	return l
}

// like fails, if a volume is not as another one, on disks that are not as its.
func (p *pair) like(t testing.TB, q *pair) {
	t.Helper()
	same(t, "Snaps", p.v.Snaps(), q.v.Snaps())
	same(t, "Tree", p.v.Tree().Nodes(), q.v.Tree().Nodes())
	same(t, "Map", p.v.Map().Text(), q.v.Map().Text())
	same(t, "Number, Free, Dead", fmt.Sprint(p.v.Number(), p.v.Free(), p.v.Dead()), fmt.Sprint(q.v.Number(), q.v.Free(), q.v.Dead()))
	for i, d := range []*disk.Disk{p.d, p.nv} {
		other := []*disk.Disk{q.d, q.nv}[i]
		if d.Image() != other.Image() || d.Loose() != other.Loose() || d.Steps() != other.Steps() || d.Dead() != other.Dead() {
			t.Fatalf("disk %d is another one", i)
		}
	}
}

// byChance is a line, such as may be done more often than not.
func (p *pair) byChance(chance *rand.Rand) string {
	name := []string{"/a", "/b", "/c", "/d"}[chance.Intn(4)]
	n, e := p.v.Tree().Get(name)
	switch k := chance.Intn(20); {
	case e != api.OK && k < 12:
		return "make " + name
	case k < 10:
		return write(name, chance.Intn(len(n.Data)+1), all(1+chance.Intn(500), chance.Intn(99)))
	case k < 12:
		return fmt.Sprint("cut ", name, " ", chance.Intn(len(n.Data)+1))
	case k < 13:
		return "remove " + name
	case k < 14:
		return "point"
	case k < 18 || len(p.pasts) == 0:
		return fmt.Sprint("snap s", chance.Intn(9))
	default:
		return "unsnap " + p.pasts[chance.Intn(len(p.pasts))].name
	}
}

// write is the line of bytes that are written.
func write(path string, at int, data string) string {
	return fmt.Sprintf("write %s %d %x", path, at, data)
}
