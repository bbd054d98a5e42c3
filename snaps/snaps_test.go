package snaps_test

import (
	"fmt"
	"math/rand"
	"slices"
	"strings"
	"testing"

	"stillage/api"
	"stillage/sets"
	"stillage/snaps"
	"stillage/volume"
)

// three is a volume with the snapshots a, b and c.
func three(t testing.TB) *pair {
	t.Helper()
	return newPair(t, 100,
		"make /a", write("/a", 0, text(500, 1)), "snap a", "make /b", write("/a", 300, text(512, 2)), "snap b", "remove /b", "cut /a 200", "snap c", write("/a", 0, "now"),
	)
}

// turned is a volume whose snapshots stand in another order by their numbers than by their names and by their planes.
func turned(t testing.TB) *pair {
	t.Helper()
	p := newPair(t, 200, "make /a")
	for i, s := range []string{"snap d", "snap x", "snap b", "snap y", "unsnap x", "snap a", "unsnap d", "snap c", "unsnap y", "snap 0"} {
		p.lines(t, write("/a", 0, text(500, i)), s)
	}
	var planes []int
	for _, x := range p.v.Snaps() {
		planes = append(planes, x.Plane)
	}
	same(t, "the names", p.names(), []string{"b", "a", "c", "0"})
	same(t, "the planes", planes, []int{3, 2, 1, 4})
	return p
}

// TestExamples are those of the document.
func TestExamples(t *testing.T) {
	p := three(t)
	all, none, e := snaps.Diff(p.v, "", "a")
	plane, _ := p.v.Map().Plane(1)
	if all != plane || all == "" || none != "" || e != api.OK {
		t.Errorf("Diff of none and a: %q %q %d", all, none, e)
	}
	gone, e := snaps.Expire(p.v, []string{"b"}, locked(t, "c"))
	if !slices.Equal(gone, []string{"a"}) || e != api.OK {
		t.Errorf("Expire: %q %d", gone, e)
	}
	// Of the examples of the whole: what was written behind a snapshot is not in it.
	p = newPair(t, 200, "make /a", "write /a 0 6162", "snap h.1", "write /a 0 7a7a")
	for _, q := range []*pair{p, p.mounted(t)} {
		f, e := snaps.Tree(q.v, "h.1")
		fine(t, e)
		if s, e := f.Read("/a", 0, 9); s != "ab" || e != api.OK {
			t.Error(s, e)
		}
		if s, e := q.v.Tree().Read("/a", 0, 9); s != "zz" || e != api.OK {
			t.Error(s, e)
		}
	}
}

// TestByChance: long rows of commands, points, Mounts and Expires: each snapshot tells what it was when it was made.
func TestByChance(t *testing.T) {
	taken, left := 0, 0
	for seed := range 30 {
		chance := rand.New(rand.NewSource(int64(seed)))
		p := newPair(t, 60+chance.Intn(300))
		for range 80 {
			switch chance.Intn(12) {
			case 0:
				p = p.mounted(t)
			case 1:
				gone, _ := p.expires(t, some(chance, p.names()), locked(t, some(chance, p.names())...))
				taken += len(gone)
				left += len(p.pasts)
			default:
				p.does(t, p.byChance(chance))
			}
			if chance.Intn(4) == 0 {
				p.holds(t)
			}
		}
		p.holds(t)
		p.mounted(t).holds(t)
	}
	if taken < 100 || left < 100 {
		t.Errorf("%d were taken away, %d left", taken, left)
	}
}

// TestTree: the tree is that of the snapshot, and the caller's own.
func TestTree(t *testing.T) {
	for _, p := range []*pair{three(t), turned(t), three(t).mounted(t), newPair(t, 32, "snap a")} {
		p.holds(t)
		for _, name := range p.names() {
			f, e := snaps.Tree(p.v, name)
			fine(t, e)
			g, e := snaps.Tree(p.v, name)
			fine(t, e)
			fine(t, f.Do(command(t, "make /new")), f.Do(command(t, write("/new", 0, "mine"))))
			x, _ := p.at(name)
			same(t, "another answer", g.Nodes(), x.nodes)
		}
		p.holds(t)
	}
}

// TestSevenSnapshots: of as many as there may be each is told, whatever is done then.
func TestSevenSnapshots(t *testing.T) {
	p := newPair(t, 300, "make /a")
	for i := range maxSnaps {
		p.lines(t, write("/a", 0, text(512, i)), fmt.Sprint("make /n", i), fmt.Sprint("snap s", i))
	}
	if e := p.does(t, "snap more"); e != api.ErrTooMany {
		t.Fatal(e)
	}
	p.holds(t)
	p.lines(t, "unsnap s3", "snap t", "unsnap s0", "cut /a 0", "snap s0", "remove /a", "point")
	p.holds(t)
	p.mounted(t).holds(t)
	p.expires(t, nil, locked(t, "t"))
	p.holds(t)
	same(t, "what is left", p.names(), []string{"t"})
}

// TestTreeOfALongFile: files of pointer blocks, and of more than the blocks that are kept in memory.
func TestTreeOfALongFile(t *testing.T) {
	p := newPair(t, 400, "make /a")
	for at := 0; at < 16384; at += 512 {
		p.lines(t, write("/a", at, text(512, at/512)))
	}
	p.lines(t, "snap long", write("/a", 8000, "!"), "snap one", "cut /a 100", "snap short")
	p.holds(t)
	p.mounted(t).holds(t)
	// A byte more is a block of the file's, those that point to it, and the table.
	add, take, e := snaps.Diff(p.v, "long", "one")
	if sets.Count(add) != 4 || sets.Count(take) != 4 || e != api.OK {
		t.Errorf("%d, %d %d", sets.Count(add), sets.Count(take), e)
	}
}

// TestDiff: of two snapshots of one tree nothing; what is alike is not told.
func TestDiff(t *testing.T) {
	p := newPair(t, 100, "make /a", write("/a", 0, text(500, 1)), "snap a", "snap b", write("/a", 480, "!"), "snap c")
	p.holds(t)
	for _, x := range []struct {
		base, target string
		add, take    int
	}{
		// The table's block, the root's entries, three chunks and what points to them: of c another chunk, another pointer block, another table.
		{"", "a", 6, 0}, {"a", "a", 0, 0}, {"a", "b", 0, 0}, {"b", "a", 0, 0}, {"a", "c", 3, 3}, {"c", "b", 3, 3}, {"", "c", 6, 0},
	} {
		add, take, e := snaps.Diff(p.v, x.base, x.target)
		if sets.Count(add) != x.add || sets.Count(take) != x.take || e != api.OK {
			t.Errorf("%q, %q: %d, %d %d", x.base, x.target, sets.Count(add), sets.Count(take), e)
		}
	}
	// Base's plane has more than target's.
	p.lines(t, "cut /a 0", "snap d")
	add, take, e := snaps.Diff(p.v, "c", "d")
	if sets.Count(add) != 1 || sets.Count(take) != 5 || e != api.OK {
		t.Errorf("%d, %d %d", sets.Count(add), sets.Count(take), e)
	}
	p.holds(t)
	// What is reached from the table is all that the plane has.
	for _, x := range p.v.Snaps() {
		all, none, e := snaps.Diff(p.v, "", x.Name)
		reach, f := volume.Reach(p.v, x.Table)
		if all != reach || none != "" || e != api.OK || f != api.OK {
			t.Errorf("%s: %q %q %d", x.Name, all, none, e)
		}
	}
}

// TestWrongNames: what is no name is told ahead of what is not there, of both names; beside an error nothing is told.
func TestWrongNames(t *testing.T) {
	p := newPair(t, 100, "make /a")
	for i, name := range edgeNames() {
		p.lines(t, write("/a", i, "x"), "snap "+name)
		p.holds(t)
		p.lines(t, "unsnap "+name)
		p.holds(t)
	}
	p = three(t)
	diff := func(base, target string, want api.Errno) {
		t.Helper()
		add, take, e := snaps.Diff(p.v, base, target)
		if e != want || e != api.OK && (add != "" || take != "") {
			t.Errorf("Diff of %.20q and %.20q: %d, not %d", base, target, e, want)
		}
	}
	for _, name := range noNames() {
		if f, e := snaps.Tree(p.v, name); f != nil || e != api.ErrSnapName {
			t.Errorf("Tree of %.20q: %d", name, e)
		}
		for _, other := range []string{"a", "b", "never", "", "A"} {
			diff(other, name, api.ErrSnapName)
			if name != "" {
				diff(name, other, api.ErrSnapName)
			}
		}
		diff(name, name, api.ErrSnapName)
	}
	for _, x := range []struct {
		base, target string
		want         api.Errno
	}{
		{"", "a", api.OK}, {"", "never", api.ErrSnapNone}, {"a", "never", api.ErrSnapNone}, {"never", "a", api.ErrSnapNone}, {"never", "never", api.ErrSnapNone},
		{"never", "n.0", api.ErrSnapNone}, {"", "", api.ErrSnapName}, {"a", "", api.ErrSnapName}, {"never", "", api.ErrSnapName},
	} {
		diff(x.base, x.target, x.want)
	}
	// A part of a snapshot's name, or more than it, is another name.
	p = newPair(t, 64, "snap h.1")
	for _, name := range []string{"h", "h.", "h.10", ".1", "1", "h.2", "h-1"} {
		p.holdsTree(t, name)
		p.holdsDiff(t, "", name)
		p.holdsDiff(t, name, "h.1")
		p.holdsDiff(t, "h.1", name)
	}
	p.holds(t)
	// Of no snapshots at all.
	p = newPair(t, 32)
	p.holds(t)
	diff("", "a", api.ErrSnapNone)
	diff("A", "a", api.ErrSnapName)
}

// subsets are all rows of some of a list's names, in order.
func subsets(l []string) (all [][]string) {
	for bits := range 1 << len(l) {
		var some []string
		for i, name := range l {
			if bits>>i&1 == 1 {
				some = append(some, name)
			}
		}
		all = append(all, some)
	}
	return all
}

// TestExpire: all that may be kept and locked, of snapshots in several orders.
func TestExpire(t *testing.T) {
	for _, start := range []*pair{three(t), turned(t)} {
		for _, keep := range subsets(start.names()) {
			for _, names := range subsets(start.names()) {
				p := start.clone()
				number, many := p.v.Number(), len(p.pasts)
				gone, e := p.expires(t, keep, locked(t, names...))
				fine(t, e)
				// Each that is taken away is a point.
				if p.v.Number() != number+len(gone) || len(p.pasts) != many-len(gone) {
					t.Fatalf("%q are gone, %d points", gone, p.v.Number()-number)
				}
				for _, x := range p.pasts {
					if !slices.Contains(keep, x.name) && !slices.Contains(names, x.name) {
						t.Fatalf("%s is there", x.name)
					}
				}
				p.holds(t)
				p.mounted(t).holds(t)
				// There is nothing more to be taken away.
				gone, e = p.expires(t, keep, locked(t, names...))
				same(t, "what is taken away again", gone, []string{})
				fine(t, e)
			}
		}
	}
}

// TestExpireOrder: by rising numbers, not by names, nor by planes, nor in the order in which they are kept.
func TestExpireOrder(t *testing.T) {
	p := turned(t)
	gone, e := p.expires(t, nil, snaps.New())
	same(t, "what is taken away", gone, []string{"b", "a", "c", "0"})
	fine(t, e)
	p = turned(t)
	gone, e = p.expires(t, []string{"c"}, locked(t, "a"))
	same(t, "what is taken away", gone, []string{"b", "0"})
	fine(t, e)
	p.holds(t)
}

// TestExpireOfOtherNames: names that are none, that are no snapshot's, or that are there more than once.
func TestExpireOfOtherNames(t *testing.T) {
	for _, keep := range [][]string{nil, {}, noNames(), {"never"}, {"", "never", "a "}, {"b", "b", "b"}, {"c", "never", "..", "a"}, {"A", "aa", "a.", "", "c", "c"}} {
		for _, names := range [][]string{nil, {"never"}, {"b", "b", "n.0"}, {"a", "aa", "a"}, {"a", "b", "c"}} {
			p := three(t)
			l := locked(t, names...)
			p.expires(t, keep, l)
			p.holds(t)
			// What was locked twice is locked once more.
			for _, name := range names {
				fine(t, l.Unlock(name))
			}
			p.expires(t, keep, l)
			p.holds(t)
		}
	}
	long := slices.Repeat([]string{"b", "never", strings.Repeat("a", 1<<16)}, 100000)
	p := three(t)
	p.expires(t, long, snaps.New())
	p.holds(t)
	same(t, "what is left", p.names(), []string{"b"})
}

// TestLockedTwice: what is locked twice and unlocked once stays.
func TestLockedTwice(t *testing.T) {
	p := three(t)
	l := locked(t, "a", "a", "c")
	fine(t, l.Unlock("a"))
	p.expires(t, nil, l)
	same(t, "what is left", p.names(), []string{"a", "c"})
	p.holds(t)
	fine(t, l.Unlock("a"), l.Unlock("c"), l.Lock("a"))
	p.expires(t, nil, l)
	same(t, "what is left", p.names(), []string{"a"})
	p.holds(t)
}

// TestExpireOfWhatIsInTheLog: the tree as it is comes to a point, and stays; without a snapshot to be taken away nothing is done.
func TestExpireOfWhatIsInTheLog(t *testing.T) {
	p := three(t)
	p.lines(t, "make /new", write("/new", 0, "new"))
	was, number := p.v.Tree().Nodes(), p.v.Number()
	d, nv := p.d.Clone(), p.nv.Clone()
	gone, e := snaps.Expire(p.v, []string{"c", "b", "a"}, snaps.New())
	if len(gone) != 0 || e != api.OK || p.v.Number() != number {
		t.Errorf("%q %d", gone, e)
	}
	alike(t, p.d, d)
	alike(t, p.nv, nv)
	p.expires(t, []string{"b"}, snaps.New())
	same(t, "the tree", p.v.Tree().Nodes(), was)
	same(t, "the tree", p.mounted(t).v.Tree().Nodes(), was)
	p.holds(t)
}

// TestExpireFrees: what only those had that are gone is free, and what the others have is not.
func TestExpireFrees(t *testing.T) {
	p := newPair(t, 100, "make /a", write("/a", 0, text(512, 1)), "snap a", write("/a", 0, text(512, 2)), "snap b", write("/a", 0, text(512, 3)), "snap c", "point")
	free := p.v.Free()
	q := p.clone()
	q.expires(t, []string{"b", "c"}, snaps.New())
	// Each has three chunks and what points to them, and the table; the root's entries are the same.
	same(t, "how many are free", q.v.Free(), free+5)
	q = p.clone()
	q.expires(t, nil, snaps.New())
	// The tree as it is is that of c; without snapshots the list's bytes are still a block's.
	same(t, "how many are free", q.v.Free(), free+10)
}

// FuzzExpire: rows of lines and Expires, a byte each.
func FuzzExpire(f *testing.F) {
	f.Add([]byte("\x00\x10\x20\x30\x40\x50\x60\x70\x80"))
	f.Add([]byte("make snapshots, and take them away"))
	f.Fuzz(func(t *testing.T, row []byte) {
		p := newPair(t, 80)
		for i, b := range row[:min(len(row), 60)] {
			chance := rand.New(rand.NewSource(int64(b)*256 + int64(i%5)))
			if b%8 == 7 {
				p.expires(t, some(chance, p.names()), locked(t, some(chance, p.names())...))
			} else {
				p.does(t, p.byChance(chance))
			}
		}
		p.holds(t)
		p.mounted(t).holds(t)
	})
}
