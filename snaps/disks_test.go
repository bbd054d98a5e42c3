package snaps_test

import (
	"fmt"
	"math/rand"
	"slices"
	"strings"
	"testing"

	"stillage/api"
	"stillage/blocks"
	"stillage/disk"
	"stillage/snaps"
	"stillage/tables"
	"stillage/volume"
	"stillage/wire"
)

// both are a pair's disks.
func (p *pair) both() []*disk.Disk { return []*disk.Disk{p.d, p.nv} }

// byChanceSet has some of the first numbers.
func byChanceSet(chance *rand.Rand) string {
	b := make([]byte, 64)
	chance.Read(b)
	return string(b)
}

// keeps are sets of loose sectors that stay.
func keeps(chance *rand.Rand) []string {
	return []string{"", strings.Repeat("\xff", 64), strings.Repeat("\xaa", 64), "\x01", byChanceSet(chance), byChanceSet(chance)}
}

// revived is what is mounted behind a crash of both disks.
func (p *pair) revived(t testing.TB, keep string) *pair {
	t.Helper()
	for _, d := range p.both() {
		d.Crash(keep)
		d.Revive()
	}
	return p.mounted(t)
}

// TestExpireCrashByCrash: the power goes in each step, on either disk: what is told as gone is gone, and the next one perhaps; the others are what they were.
func TestExpireCrashByCrash(t *testing.T) {
	chance := rand.New(rand.NewSource(1))
	start := newPair(t, 120, "make /a", "snap d", write("/a", 0, text(400, 1)), "snap c", "make /b", write("/b", 0, text(300, 2)), "snap b", "remove /a", "snap a", "make /new")
	tree := start.v.Tree().Nodes()
	for _, keep := range [][]string{nil, {"c"}, {"d", "b"}} {
		for which := range 2 {
			kinds := map[string]int{}
			for step, went := 1, true; went; step++ {
				for _, stays := range keeps(chance) {
					p := start.clone()
					fine(t, p.both()[which].Arm(step, stays))
					gone, e := p.expires(t, keep, locked(t, "b"))
					if went = e != api.OK; !went {
						break
					}
					if e != api.ErrDead || !p.v.Dead() {
						t.Fatalf("step %d of disk %d: %d", step, which, e)
					}
					// A dead one goes on to tell what it knows.
					for _, name := range append(p.names(), "") {
						p.holdsDiff(t, name, p.names()[0])
					}
					again, e := p.expires(t, keep, locked(t, "b"))
					if len(again) != 0 || e != api.ErrDead {
						t.Fatalf("Expire of a dead one: %q %d", again, e)
					}
					next := p.others("b", keep...)[0]
					kind := fmt.Sprint(len(gone), " and the next one not")
					q := p.revived(t, byChanceSet(chance))
					if len(q.v.Snaps()) < len(q.pasts) {
						kind = fmt.Sprint(len(gone), " and the next one")
						q.forget(next)
					}
					kinds[kind]++
					q.holds(t)
					same(t, "the tree", q.v.Tree().Nodes(), tree)
					// It goes on as if nothing had been.
					_, e = q.expires(t, keep, locked(t, "b"))
					fine(t, e)
					q.holds(t)
				}
			}
			for gone := range len(start.others("b", keep...)) {
				// The log is asked behind the root alone.
				if kinds[fmt.Sprint(gone, " and the next one")] == 0 || which == 0 && kinds[fmt.Sprint(gone, " and the next one not")] == 0 {
					t.Errorf("but %q, disk %d: %v", keep, which, kinds)
				}
			}
		}
	}
}

// others are the names of the snapshots but some.
func (p *pair) others(but string, more ...string) []string {
	return slices.DeleteFunc(p.names(), func(s string) bool { return s == but || slices.Contains(more, s) })
}

// TestExpireOfBadSectors: with each sector bad in turn what is told as gone is gone, the first error ends it, and the others are what they were.
func TestExpireOfBadSectors(t *testing.T) {
	start := newPair(t, 60, "make /a", "snap d", write("/a", 0, text(400, 1)), "snap c", "make /b", write("/b", 0, text(300, 2)), "snap b", "remove /a", "snap a", "make /new")
	tree := start.v.Tree().Nodes()
	kinds := map[string]int{}
	for which, d := range start.both() {
		for n := range d.Sectors() {
			p := start.mounted(t)
			fine(t, p.both()[which].Bad(n, true))
			gone, e := p.expires(t, []string{"b"}, snaps.New())
			kinds[fmt.Sprint(len(gone), " ", e)]++
			same(t, "the tree", p.v.Tree().Nodes(), tree)
			fine(t, p.both()[which].Bad(n, false))
			if e == api.ErrDead {
				// A log that can't be started behind a root that stays: the snapshot is gone all the same.
				p.forget(p.others("b")[0])
				p = p.mounted(t)
			}
			p.holds(t)
			p.mounted(t).holds(t)
			// The next Expire takes away what is left.
			_, e = p.expires(t, []string{"b"}, snaps.New())
			fine(t, e)
			p.holds(t)
		}
	}
	for _, kind := range []string{"0 3", "1 3", "2 3", "3 0", "0 2"} {
		if kinds[kind] == 0 {
			t.Error(kinds)
		}
	}
}

// TestWithoutPower: what asks a disk tells ErrDead; names are told ahead of that; what asks none goes on.
func TestWithoutPower(t *testing.T) {
	start := three(t).mounted(t)
	for which := range 2 {
		p := start.mounted(t)
		fine(t, p.both()[which].Crash(""))
		wasDead := p.v.Dead()
		gone, e := snaps.Expire(p.v, []string{"b", "a"}, locked(t, "c"))
		if len(gone) != 0 || e != api.OK || wasDead || p.v.Dead() {
			t.Fatalf("nothing to be taken away: %q %d", gone, e)
		}
		gone, e = snaps.Expire(p.v, []string{"b"}, locked(t, "c"))
		if len(gone) != 0 || e != api.ErrDead || !p.v.Dead() {
			t.Fatalf("disk %d: %q %d", which, gone, e)
		}
		gone, e = snaps.Expire(p.v, []string{"b", "a"}, locked(t, "c"))
		if len(gone) != 0 || e != api.OK {
			t.Fatalf("nothing to be taken away: %q %d", gone, e)
		}
		for _, base := range []string{"", "a", "b", "c", "never"} {
			for _, target := range []string{"a", "b", "c", "never"} {
				p.holdsDiff(t, base, target)
			}
		}
	}
	p := start.mounted(t)
	fine(t, p.d.Crash(""))
	for name, want := range map[string]api.Errno{"A": api.ErrSnapName, "": api.ErrSnapName, "never": api.ErrSnapNone} {
		if f, e := snaps.Tree(p.v, name); f != nil || e != want || p.v.Dead() {
			t.Errorf("Tree of %q: %d", name, e)
		}
	}
	if f, e := snaps.Tree(p.v, "a"); f != nil || e != api.ErrDead || !p.v.Dead() {
		t.Errorf("Tree: %d", e)
	}
	p.d.Revive()
	for name, want := range map[string]api.Errno{"A": api.ErrSnapName, "never": api.ErrSnapNone, "a": api.ErrDead, "b": api.ErrDead} {
		if f, e := snaps.Tree(p.v, name); f != nil || e != want {
			t.Errorf("Tree of %q: %d", name, e)
		}
	}
	p.mounted(t).holds(t)
	// Without power of the log alone a tree can be read.
	p = start.mounted(t)
	fine(t, p.nv.Crash(""))
	p.holds(t)
}

// TestTreeOfBadSectors: with each sector bad in turn Tree tells what Load tells of the table, and a tree that can be read is what it was.
func TestTreeOfBadSectors(t *testing.T) {
	start := three(t)
	bad := 0
	for n := range start.d.Sectors() {
		p := start.mounted(t)
		if p.d.Bad(n, true) != api.OK {
			t.Fatal(n)
		}
		for _, x := range p.v.Snaps() {
			// A clone of its own each: what was read is kept in memory.
			q := p.clone()
			_, want := volume.Load(q.v, x.Table)
			q = p.clone()
			f, e := snaps.Tree(q.v, x.Name)
			if e != want || (f == nil) != (e != api.OK) || e != api.OK && e != api.ErrIO || q.v.Dead() {
				t.Fatalf("sector %d: %d, not %d", n, e, want)
			}
			if e == api.ErrIO {
				bad++
			} else {
				q.holdsTree(t, x.Name)
			}
			q.holdsDiff(t, "", x.Name)
			fine(t, q.d.Bad(n, false))
			q.holds(t)
		}
	}
	if bad < 20 {
		t.Errorf("%d trees could not be read", bad)
	}
}

// other is a volume on whose blocks somebody wrote before it was mounted: each payload into the block of its number.
func (p *pair) other(t testing.TB, payloads map[int]string) *pair {
	t.Helper()
	q := p.clone()
	b, e := blocks.Open(q.d)
	fine(t, e)
	root, _ := b.Root()
	for vbn, payload := range payloads {
		fine(t, b.Write(vbn, payload))
	}
	fine(t, b.Commit(root))
	return q.mounted(t)
}

// TestTreeOfOtherBytes: of a table that is none, or whose tree is none, Load's error is told.
func TestTreeOfOtherBytes(t *testing.T) {
	p := newPair(t, 64, "make /a", write("/a", 0, "old"), "snap s", write("/a", 0, "new"), "make /b", "snap u", "make /c", "point")
	x := p.v.Snaps()[0]
	good, e := p.v.Read(x.Table.Root)
	fine(t, e)
	inodes, e := tables.ParseInodes(good)
	fine(t, e)
	with := func(change func(l []api.Inode)) string {
		l := slices.Clone(inodes)
		change(l)
		s, e := tables.Inodes(l)
		fine(t, e)
		return s
	}
	for what, y := range map[string]struct {
		payload string
		want    api.Errno
	}{
		"the same":           {good, api.OK},
		"no bytes":           {"", api.ErrTreeForm},
		"a byte more":        {good + "\x00", api.ErrTreeForm},
		"no table":           {strings.Repeat("x", len(good)), api.ErrVolumeForm},
		"no tree":            {with(func(l []api.Inode) { l[0].Dir = false }), api.ErrVolumeForm},
		"too many links":     {with(func(l []api.Inode) { l[1].Links = 2 }), api.ErrVolumeForm},
		"another size":       {with(func(l []api.Inode) { l[1].Blob.Size++ }), api.ErrTreeForm},
		"a block of none":    {with(func(l []api.Inode) { l[1].Blob.Root = 64 }), api.ErrBlockAt},
		"a block of nothing": {with(func(l []api.Inode) { l[1].Blob.Root = 63 }), api.ErrBlockSum},
	} {
		q := p.other(t, map[int]string{x.Table.Root: y.payload})
		f, e := snaps.Tree(q.v, "s")
		if e != y.want || (f == nil) != (e != api.OK) {
			t.Errorf("%s: %d, not %d", what, e, y.want)
		}
		q.holdsTree(t, "u")
		q.holdsDiff(t, "s", "u")
		q.holdsDiff(t, "", "s")
		// What can't be read can be taken away.
		q.expires(t, []string{"u"}, snaps.New())
		q.holds(t)
	}
}

// TestExpireWithoutRoom: if there is no room for a point, that is told, and nothing is another one.
func TestExpireWithoutRoom(t *testing.T) {
	p := newPair(t, 64, "make /a", "snap a", write("/a", 0, text(300, 1)), "snap b", write("/a", 0, text(300, 2)), "snap c", "point")
	b, e := blocks.Open(p.d.Clone())
	fine(t, e)
	root, _ := b.Root()
	r := wire.New(root)
	var l []int
	for range 8 {
		n, e := r.Num(1 << 41)
		fine(t, e)
		l = append(l, n)
	}
	m, e := b.Read(l[4])
	fine(t, e)
	same(t, "the map", m, p.v.Map().Text())
	for _, free := range []int{0, 1, 2, 3} {
		marked, left := []byte(m), free
		for vbn := 1; vbn < len(marked); vbn++ {
			if marked[vbn] == 0 {
				if left--; left < 0 {
					marked[vbn] = 4
				}
			}
		}
		q := p.other(t, map[int]string{l[4]: string(marked)})
		i := slices.IndexFunc(q.pasts, func(x past) bool { return x.name == "b" })
		q.pasts[i].plane, e = q.v.Map().Plane(2)
		fine(t, e)
		same(t, "how many are free", q.v.Free(), free)
		want := api.OK
		if free < 2 {
			want = api.ErrNoSpace
		}
		for _, keep := range [][]string{{"b", "c"}, {"a", "c"}, nil} {
			gone, e := q.clone().expires(t, keep, snaps.New())
			if e != want || (len(gone) == 0) != (e != api.OK) {
				t.Errorf("%d free blocks, but %q: %q %d", free, keep, gone, e)
			}
		}
		q.holds(t)
	}
}
