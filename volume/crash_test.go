package volume_test

import (
	"fmt"
	"math/rand"
	"slices"
	"strings"
	"testing"

	"stillage/api"
	"stillage/blocks"
	"stillage/disk"
	"stillage/nvlog"
	"stillage/sets"
	"stillage/volume"
)

// keeps are sets of loose sectors that stay.
func keeps(chance *rand.Rand) []string {
	l := []string{"", strings.Repeat("\xff", 64), strings.Repeat("\xaa", 64), strings.Repeat("\x55", 64), "\x01", "\x80", "\xfe\xff\xff\xff\xff\xff\xff\xff"}
	return append(l, byChanceSet(chance), byChanceSet(chance))
}

// byChanceSet has some of the first numbers.
func byChanceSet(chance *rand.Rand) string {
	b := make([]byte, 64)
	chance.Read(b)
	return string(b)
}

// on does a line, or makes a point.
func on(t testing.TB, v *volume.Volume, line string) api.Errno {
	t.Helper()
	if line == "point" {
		return v.Point()
	}
	return v.Do(command(t, line))
}

// row are lines that are done on a volume of so many blocks.
type row struct {
	many  int
	lines []string
}

// rows are such as have points of all causes: asked for, by a log that is full, by snapshots made and taken away, for room.
func rows(t testing.TB) (all []row) {
	t.Helper()
	all = append(all,
		row{48, []string{"make /a", "point", write("/a", 0, text(300, 1)), "snap s", write("/a", 100, text(200, 2)), "dir /d", "unsnap s", "point", "remove /a"}},
		row{48, slices.Concat([]string{"make /a"}, appending("/a", 0, 2000, 3), []string{"snap s", "link /a /b"}, appending("/b", 0, 600, 4), []string{"cut /a 5", "snap u", "unsnap s", "rename /b /c"})},
	)
	// What was cut off must come to be free, ahead of what comes then: of a snapshot, and of what is written.
	room := row{35, slices.Concat(
		[]string{"make /a"}, appending("/a", 0, 1440, 5), []string{"point", "dir /d", "cut /a 1", "snap s", "unsnap s", "remove /d"},
		appending("/a", 1, 1440, 6), []string{"point", "cut /a 0", write("/a", 0, text(512, 3)), "remove /a"},
	)}
	p := newPair(t, room.many)
	for _, line := range room.lines {
		at := p.v.Number()
		p.lines(t, line)
		if points := p.v.Number() - at; line == "snap s" && points != 2 || line == write("/a", 0, text(512, 3)) && points != 1 {
			t.Fatalf("%.40s: %d points", line, points)
		}
	}
	all = append(all, room)
	chance := rand.New(rand.NewSource(7))
	p = newPair(t, 48)
	many := row{many: 48}
	for range 60 {
		c := byChance(chance, p.m.tree, p.m.snaps)
		if e := p.does(t, c); e == api.OK || e == api.ErrNoSpace {
			many.lines = append(many.lines, lineOf(c))
		}
	}
	return append(all, many)
}

// lineOf is a command's line.
func lineOf(c api.Command) string {
	switch c.Kind {
	case api.CmdMake:
		return "make " + c.Path
	case api.CmdDir:
		return "dir " + c.Path
	case api.CmdWrite:
		return write(c.Path, c.At, c.Data)
	case api.CmdCut:
		return fmt.Sprint("cut ", c.Path, " ", c.At)
	case api.CmdLink:
		return "link " + c.Path + " " + c.To
	case api.CmdRename:
		return "rename " + c.Path + " " + c.To
	case api.CmdRemove:
		return "remove " + c.Path
	case api.CmdSnap:
		return "snap " + c.Path
	default:
		return "unsnap " + c.Path
	}
}

// course is what a row's calls answer, and what is told ahead of each and behind the last one.
type course struct {
	answers          []api.Errno
	told, remembered []string
}

func courseOf(t testing.TB, r row) (c course) {
	t.Helper()
	p := newPair(t, r.many)
	keep := func() {
		c.told, c.remembered = append(c.told, told(t, p.v)), append(c.remembered, remembered(p.v))
	}
	keep()
	for _, line := range r.lines {
		c.answers = append(c.answers, on(t, p.v, line))
		keep()
	}
	return c
}

// TestCrashByCrash: the power goes in each step of each row, on either disk, with many things kept: all that was answered OK is there, and what was under way wholly or not at all.
func TestCrashByCrash(t *testing.T) {
	for i, r := range rows(t) {
		c := courseOf(t, r)
		for which := range 2 {
			t.Run(fmt.Sprint("row ", i, " disk ", which), func(t *testing.T) {
				t.Parallel()
				chance := rand.New(rand.NewSource(int64(i)))
				step, kinds := 1, map[bool]int{}
				for went := true; went; step++ {
					for _, keep := range keeps(chance) {
						var done bool
						went, done = crashIn(t, r, c, which, step, keep, byChanceSet(chance))
						kinds[done]++
					}
				}
				if step < 10 || kinds[true] == 0 || kinds[false] == 0 {
					t.Errorf("%d steps, what was under way was done or not: %v", step, kinds)
				}
			})
		}
	}
}

// crashIn lets the power go in a step of one disk, and then on the other one; it tells whether there is such a step, and whether what was under way is done.
func crashIn(t *testing.T, r row, c course, which, step int, keep, other string) (went, done bool) {
	t.Helper()
	p := newPair(t, r.many)
	fine(t, [...]*disk.Disk{p.d, p.nv}[which].Arm(step, keep))
	at := 0
	for ; at < len(r.lines); at++ {
		e := on(t, p.v, r.lines[at])
		if e == api.ErrDead {
			break
		}
		if e != c.answers[at] {
			t.Fatalf("%.40s: %d, not %d", r.lines[at], e, c.answers[at])
		}
	}
	if at == len(r.lines) {
		return false, false
	}
	staysDead(t, p.v)
	same(t, "what a dead one tells", remembered(p.v), c.remembered[at])
	p.d.Crash(other)
	p.nv.Crash(other)
	p.d.Revive()
	p.nv.Revive()
	v, e := volume.Mount(p.d, p.nv)
	fine(t, e)
	got := told(t, v)
	switch got {
	case c.told[at]:
	case c.told[at+1]:
		done = true
	default:
		t.Fatalf("step %d of disk %d, in %.40s:\n%.2000s\nis neither\n%.2000s\nnor\n%.2000s", step, which, r.lines[at], got, c.told[at], c.told[at+1])
	}
	agrees(t, v, p.d, p.nv)
	// It goes on as if nothing had been.
	for i := at; i < len(r.lines); i++ {
		if i == at && done {
			continue
		}
		if e := on(t, v, r.lines[i]); e == api.ErrDead || e == api.ErrIO {
			t.Fatalf("%.40s behind a crash: %d", r.lines[i], e)
		}
	}
	agrees(t, v, p.d, p.nv)
	return true, done
}

// remembered is what a volume tells without asking its disks.
func remembered(v *volume.Volume) string {
	return show(v.Tree().Nodes()) + show(v.Snaps())
}

// staysDead fails, if a volume is not dead, for good.
func staysDead(t testing.TB, v *volume.Volume) {
	t.Helper()
	n, e := v.Need(api.Command{Kind: api.CmdMake, Path: "/never"})
	if !v.Dead() || n != 0 || e != api.ErrDead || v.Point() != api.ErrDead {
		t.Fatal("it is not dead")
	}
	for _, line := range []string{"make /never", "remove /none", "snap s", "unsnap none"} {
		if e := v.Do(command(t, line)); e != api.ErrDead {
			t.Fatalf("%s of a dead one: %d", line, e)
		}
	}
}

// agrees holds the planes against what is reached, by what stands on the disks.
func agrees(t testing.TB, v *volume.Volume, d, nv *disk.Disk) {
	t.Helper()
	b, e := blocks.Open(d.Clone())
	fine(t, e)
	root, n := b.Root()
	same(t, "the root's number", n, v.Number())
	l, e := nvlog.Open(nv.Clone())
	fine(t, e)
	same(t, "the log's number", l.Gen(), n)
	r := readNumbers(root)
	all := v.Map()
	reached, e := volume.Reach(v, api.Blob{Root: r[0], Size: r[1]})
	fine(t, e)
	for i := 2; i <= 4; i += 2 {
		m := &model{payloads: map[int]string{}}
		for vbn := 1; vbn < b.Blocks(); vbn++ {
			if s, e := b.Read(vbn); e == api.OK {
				m.payloads[vbn] = s
			}
		}
		reached = sets.Or(reached, setOf(m.reach(api.Blob{Root: r[i], Size: r[i+1]})))
	}
	plane, _ := all.Plane(0)
	same(t, "plane 0", plane, reached)
	for _, x := range v.Snaps() {
		set, e := volume.Reach(v, x.Table)
		fine(t, e)
		plane, _ := all.Plane(x.Plane)
		same(t, "the plane of "+x.Name, plane, set)
		reached = sets.Or(reached, set)
	}
	same(t, "Used", all.Used(), reached)
	same(t, "Free", v.Free(), b.Blocks()-1-sets.Count(reached))
}

// readNumbers are those that were laid.
func readNumbers(s string) (l []int) {
	n, shift := 0, 0
	for i := range len(s) {
		n |= int(s[i]%128) << shift
		shift += 7
		if s[i] < 128 {
			l = append(l, n)
			n, shift = 0, 0
		}
	}
	return l
}

// TestCrashBehindCrash: the power goes again and again, also while it is mounted.
func TestCrashBehindCrash(t *testing.T) {
	crashes, inMount := 0, 0
	for seed := range 30 {
		chance := rand.New(rand.NewSource(int64(seed)))
		p := newPair(t, 40+chance.Intn(100))
		v := p.v
		fine(t, on(t, v, "make /a"))
		before := told(t, v)
		for range 25 {
			disks := []*disk.Disk{p.d, p.nv}
			i := chance.Intn(2)
			fine(t, disks[i].Arm(1+chance.Intn(60-40*i), byChanceSet(chance)))
			after := before
			for !v.Dead() {
				before = told(t, v)
				c := byChance(chance, v.Tree(), v.Snaps())
				// What it comes to is tried on clones that nothing happens to.
				d, nv := p.d.Clone(), p.nv.Clone()
				fine(t, d.Arm(0, ""), nv.Arm(0, ""))
				w := v.Clone(d, nv)
				want := w.Do(c)
				after = told(t, w)
				if e := v.Do(c); e != want && e != api.ErrDead {
					t.Fatalf("%s: %d, not %d", short(c), e, want)
				}
			}
			crashes++
			for {
				p.d.Crash(byChanceSet(chance))
				p.nv.Crash(byChanceSet(chance))
				p.d.Revive()
				p.nv.Revive()
				if chance.Intn(2) == 0 {
					fine(t, p.nv.Arm(1+chance.Intn(2), byChanceSet(chance)))
				}
				w, e := volume.Mount(p.d, p.nv)
				if e == api.OK {
					v = w
					break
				}
				if w != nil || e != api.ErrDead {
					t.Fatalf("Mount: %d", e)
				}
				inMount++
			}
			fine(t, p.nv.Arm(0, ""))
			if got := told(t, v); got != before && got != after {
				t.Fatalf("seed %d:\n%.1000s\nis neither\n%.1000s\nnor\n%.1000s", seed, got, before, after)
			}
			agrees(t, v, p.d, p.nv)
		}
	}
	if inMount < 5 {
		t.Errorf("of %d crashes %d were in a Mount", crashes, inMount)
	}
}

// TestPowerOfOneDisk: a command on files asks only the log's disk; what asks a disk without power makes the volume dead.
func TestPowerOfOneDisk(t *testing.T) {
	start := newPair(t, 64).lines(t, "make /a", "snap s", write("/a", 0, "x"))
	for _, x := range []struct {
		disk int
		line string
		want api.Errno
	}{
		{0, "make /b", api.OK}, {0, write("/a", 0, text(512, 1)), api.OK}, {0, "snap u", api.ErrDead}, {0, "unsnap s", api.ErrDead}, {0, "point", api.ErrDead},
		{1, "make /b", api.ErrDead}, {1, "snap u", api.ErrDead}, {1, "unsnap s", api.ErrDead}, {1, "point", api.ErrDead},
		{0, "make /a", api.ErrFileThere}, {1, "make /a", api.ErrFileThere}, {0, "snap s", api.ErrSnapThere}, {1, "unsnap u", api.ErrSnapNone},
	} {
		p := start.clone()
		before := remembered(p.v)
		free, number, m := p.v.Free(), p.v.Number(), p.v.Map().Text()
		fine(t, []*disk.Disk{p.d, p.nv}[x.disk].Crash(""))
		if e := on(t, p.v, x.line); e != x.want || p.v.Dead() != (e == api.ErrDead) {
			t.Fatalf("%.30s without power on disk %d: %d", x.line, x.disk, e)
		}
		if x.want == api.OK {
			continue
		}
		// What is not answered OK has changed nothing.
		same(t, "what is told", remembered(p.v), before)
		same(t, "Free, Number", []int{p.v.Free(), p.v.Number()}, []int{free, number})
		same(t, "Map", p.v.Map().Text(), m)
		p.d.Revive()
		p.nv.Revive()
		if x.want == api.ErrDead {
			staysDead(t, p.v)
			if !p.v.Clone(p.d.Clone(), p.nv.Clone()).Dead() {
				t.Error("a clone is alive")
			}
		}
	}
}

// TestDeadByRead: a Read that is answered ErrDead makes it dead; one of a payload that is kept is not.
func TestDeadByRead(t *testing.T) {
	p := newPair(t, 200).lines(t, "make /a")
	p.lines(t, appending("/a", 0, 12000, 1)...)
	p.lines(t, "point")
	table := p.m.table.Root
	s, e := p.v.Read(table)
	fine(t, e)
	fine(t, p.d.Crash(""))
	if again, e := p.v.Read(table); again != s || e != api.OK || p.v.Dead() {
		t.Error(e)
	}
	for vbn, want := range map[int]api.Errno{0: api.ErrBlockAt, -1: api.ErrBlockAt, 200: api.ErrBlockAt} {
		if s, e := p.v.Read(vbn); s != "" || e != want || p.v.Dead() {
			t.Errorf("Read(%d): %d", vbn, e)
		}
	}
	dead := 0
	for vbn := 1; vbn < 200 && dead == 0; vbn++ {
		if s, e := p.v.Read(vbn); e == api.ErrDead && s == "" {
			dead = vbn
		} else if e != api.OK {
			t.Errorf("Read(%d): %d", vbn, e)
		}
	}
	if dead == 0 {
		t.Fatal("all blocks are kept")
	}
	p.d.Revive()
	staysDead(t, p.v)
	if s, e := p.v.Read(dead); s != "" || e != api.ErrDead {
		t.Error(e)
	}
	// Load reads through the volume.
	p = newPair(t, 64).mounted(t)
	fine(t, p.d.Crash(""))
	for vbn := 1; vbn < 64; vbn++ {
		p.v.Read(vbn)
	}
	staysDead(t, p.v)
}

// TestRead: it is what blocks tells.
func TestRead(t *testing.T) {
	p := newPair(t, 64).lines(t, "make /a", write("/a", 0, text(700, 1)[:512]), "point")
	b, e := blocks.Open(p.d.Clone())
	fine(t, e)
	q := p.mounted(t)
	for vbn := -2; vbn < 70; vbn++ {
		want, wantE := b.Read(vbn)
		if s, e := q.v.Read(vbn); s != want || e != wantE {
			t.Errorf("Read(%d): %d, not %d", vbn, e, wantE)
		}
	}
	fine(t, q.d.Bad(4*60, true))
	if s, e := q.v.Read(60); s != "" || e != api.ErrIO {
		t.Error(e)
	}
	q.holds(t)
}

// TestBadSectors: with each sector bad in turn commands are answered OK or ErrIO, and what is not answered OK has changed nothing.
func TestBadSectors(t *testing.T) {
	const many = 48
	start := newPair(t, many).lines(t, "make /a", write("/a", 0, text(500, 1)), "snap s", "make /b", write("/b", 0, text(300, 2)), "point", "remove /a", write("/b", 200, text(300, 3)))
	lines := []string{"make /c", write("/b", 0, "!"), "snap u", "dir /d", "point", write("/b", 3, text(512, 9)), "unsnap s", "cut /b 100", "point"}
	failed := 0
	for n := range 4 * many {
		// Mounted anew, it has next to nothing in memory of what stands in blocks.
		p := start.mounted(t)
		fine(t, p.d.Bad(n, true))
		for _, line := range lines {
			before, free := remembered(p.v), p.v.Free()
			e := on(t, p.v, line)
			if e == api.ErrIO {
				failed++
				same(t, "what is told behind "+line, remembered(p.v), before)
				same(t, "Free behind "+line, p.v.Free(), free)
			} else if e != api.OK {
				t.Fatalf("sector %d: %.30s: %d", n, line, e)
			}
			if p.v.Dead() {
				t.Fatalf("sector %d: dead", n)
			}
		}
		want := remembered(p.v)
		fine(t, p.d.Bad(n, false))
		v, e := volume.Mount(p.d.Clone(), p.nv.Clone())
		fine(t, e)
		same(t, "what is mounted", remembered(v), want)
		agrees(t, v, p.d, p.nv)
		// The volume goes on.
		fine(t, p.v.Point())
		same(t, "what it tells", remembered(p.v), want)
		agrees(t, p.v, p.d, p.nv)
	}
	if failed < 50 {
		t.Errorf("%d calls failed", failed)
	}
}

// TestPointsThatFail: if a command needs a point ahead of it, for its line or for its blocks, the error of that is told, and nothing is another one.
func TestPointsThatFail(t *testing.T) {
	var l []*pair
	var lines []string
	for _, p := range fillings(t) {
		if p.does(t, command(t, "cut /b 0")) != api.OK {
			continue
		}
		for _, line := range []string{"make /x", "snap x"} {
			if n, _ := p.v.Need(command(t, line)); n > p.v.Free() {
				l, lines = append(l, p), append(lines, line)
			}
		}
	}
	p := newPair(t, 64).lines(t, "make /a", write("/a", 0, text(512, 1)))
	l, lines = append(l, p), append(lines, write("/a", 0, text(512, 2)))
	if len(l) < 5 {
		t.Fatal(len(l))
	}
	for i, p := range l {
		before := remembered(p.v)
		for what, f := range map[api.Errno]func(q *pair){
			api.ErrIO: func(q *pair) {
				used := q.m.used()
				for vbn := 1; vbn < q.m.blocks; vbn++ {
					if !used[vbn] {
						fine(t, q.d.Bad(4*vbn, true))
					}
				}
			},
			api.ErrDead: func(q *pair) { fine(t, q.d.Crash("")) },
		} {
			q := p.clone()
			f(q)
			if e := q.v.Do(command(t, lines[i])); e != what || q.v.Dead() != (e == api.ErrDead) {
				t.Fatalf("%.30s: %d, not %d", lines[i], e, what)
			}
			same(t, "what is told", remembered(q.v), before)
			same(t, "Free, Number", []int{q.v.Free(), q.v.Number()}, []int{p.v.Free(), p.v.Number()})
		}
		if e := p.does(t, command(t, lines[i])); e != api.OK {
			t.Fatalf("%.30s: %d", lines[i], e)
		}
		p.holds(t)
	}
}

// TestBadSectorsOfTheLog: a line that can't be noted is not done; a log that can't be started is as if the power had gone.
func TestBadSectorsOfTheLog(t *testing.T) {
	start := newPair(t, 64).lines(t, "make /a", "snap s", write("/a", 0, "x"))
	for n := range logSectors {
		p := start.clone()
		fine(t, p.nv.Bad(n, true))
		for i := range 12 {
			before := remembered(p.v)
			e := p.v.Do(command(t, write("/a", 0, text(80, i))))
			if e != api.OK {
				same(t, "what is told", remembered(p.v), before)
			}
			if e != api.OK && e != api.ErrIO || p.v.Dead() {
				t.Fatalf("sector %d: %d", n, e)
			}
			if n == 0 && e != api.ErrIO {
				t.Fatal("sector 0 is not written")
			}
		}
		want := remembered(p.v)
		fine(t, p.nv.Bad(n, false))
		v, e := volume.Mount(p.d.Clone(), p.nv.Clone())
		fine(t, e)
		same(t, "what is mounted", remembered(v), want)
		fine(t, p.v.Do(command(t, "make /b")), p.v.Point())
		agrees(t, p.v, p.d, p.nv)
	}
	for line, snaps := range map[string]int{"point": 1, "snap u": 2, "unsnap s": 0} {
		p := start.clone()
		before, free, number, text := remembered(p.v), p.v.Free(), p.v.Number(), p.v.Map().Text()
		fine(t, p.nv.Bad(0, true))
		if e := on(t, p.v, line); e != api.ErrDead {
			t.Fatalf("%s: %d", line, e)
		}
		same(t, "what is told", remembered(p.v), before)
		same(t, "Free, Number", []int{p.v.Free(), p.v.Number()}, []int{free, number})
		same(t, "Map", p.v.Map().Text(), text)
		if v, e := volume.Mount(p.d.Clone(), p.nv.Clone()); v != nil || e != api.ErrIO {
			t.Errorf("Mount with a bad log: %d", e)
		}
		fine(t, p.nv.Bad(0, false))
		staysDead(t, p.v)
		// The root was committed: what it names is there, once the log can be started.
		v, e := volume.Mount(p.d, p.nv)
		fine(t, e)
		if v.Number() != number+1 || len(v.Snaps()) != snaps {
			t.Errorf("%s: Number %d behind %d, %d snapshots", line, v.Number(), number, len(v.Snaps()))
		}
		same(t, "the tree", v.Tree().Nodes(), start.v.Tree().Nodes())
		agrees(t, v, p.d, p.nv)
	}
	// A log that is full is started within a command on files.
	p := newPair(t, 64).lines(t, "make /a", write("/a", 0, text(512, 1)))
	fine(t, p.nv.Bad(0, true))
	if e := p.v.Do(command(t, write("/a", 0, text(512, 2)))); e != api.ErrDead {
		t.Error(e)
	}
	fine(t, p.nv.Bad(0, false))
	v, e := volume.Mount(p.d, p.nv)
	fine(t, e)
	same(t, "the tree", v.Tree().Nodes(), p.m.tree.Nodes())
}
