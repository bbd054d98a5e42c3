package volume_test

import (
	"fmt"
	"math/rand"
	"strings"
	"testing"

	"stillage/api"
	"stillage/files"
)

// byChance is a command, such as may be done more often than not.
func byChance(chance *rand.Rand, f *files.Tree, snaps []api.Snap) api.Command {
	names := []string{"a", "b", "c", "d", "e.f", "x-y_z", "0"}
	path := func() string {
		at := "/"
		for {
			l, e := f.List(at)
			if e != api.OK || chance.Intn(4) == 0 {
				return at
			}
			name := names[chance.Intn(len(names))]
			if len(l) > 0 && chance.Intn(3) > 0 {
				name = l[chance.Intn(len(l))]
			}
			at = strings.TrimSuffix(at, "/") + "/" + name
		}
	}
	c := api.Command{Path: path()}
	n, _ := f.Get(c.Path)
	switch k := chance.Intn(100); {
	case k < 18:
		c.Kind = api.CmdMake
	case k < 24:
		c.Kind = api.CmdDir
	case k < 60:
		c.Kind = api.CmdWrite
		c.At = chance.Intn(len(n.Data) + 1)
		if chance.Intn(2) == 0 {
			c.At = len(n.Data)
		}
		c.Data = text(chance.Intn(513), chance.Intn(9))
		if chance.Intn(4) == 0 {
			c.Data = c.Data[:len(c.Data)/100]
		}
		if chance.Intn(4) == 0 { // what the file has already
			c.Data = n.Data[c.At:min(len(n.Data), c.At+512)]
		}
	case k < 66:
		c.Kind, c.At = api.CmdCut, chance.Intn(len(n.Data)+2)
	case k < 70:
		c.Kind, c.To = api.CmdLink, path()
	case k < 74:
		c.Kind, c.To = api.CmdRename, path()
	case k < 84:
		c.Kind = api.CmdRemove
	case k < 92:
		c = api.Command{Kind: api.CmdSnap, Path: "s" + fmt.Sprint(chance.Intn(12))}
	default:
		c = api.Command{Kind: api.CmdUnsnap, Path: "s" + fmt.Sprint(chance.Intn(12))}
		if len(snaps) > 0 && chance.Intn(2) == 0 {
			c.Path = snaps[chance.Intn(len(snaps))].Name
		}
	}
	return c
}

// TestByChance: long rows, on volumes of many sizes, with clones and Mounts between: all is as in the model.
func TestByChance(t *testing.T) {
	sizes := []int{32, 33, 36, 40, 48, 64, 100, 160, 239, 240, 241, 300, 500}
	errors := map[api.Errno]int{}
	for seed := range 52 {
		chance := rand.New(rand.NewSource(int64(seed)))
		p := newPair(t, sizes[seed%len(sizes)])
		was := map[int]*files.Tree{}
		for range 150 {
			c := byChance(chance, p.m.tree, p.m.snaps)
			switch chance.Intn(60) {
			case 0:
				p.points(t)
			case 1:
				p = p.mounted(t)
			case 2:
				old := p
				p = p.clone()
				old.v.Do(api.Command{Kind: api.CmdMake, Path: "/never"})
				old.v.Point()
			}
			e := p.does(t, c)
			errors[e]++
			for _, x := range p.m.snaps {
				if was[x.Id] == nil {
					was[x.Id] = p.m.tree.Clone()
				}
			}
			if chance.Intn(4) == 0 || c.Kind == api.CmdSnap || c.Kind == api.CmdUnsnap || e == api.ErrNoSpace {
				p.holds(t)
				p.reaches(t, was)
			}
		}
		p.holds(t)
		p.mounted(t).holds(t)
	}
	for _, e := range []api.Errno{api.OK, api.ErrNoSpace, api.ErrSnapThere, api.ErrSnapNone, api.ErrTooMany, api.ErrFileNone, api.ErrFileThere} {
		if errors[e] < 5 {
			t.Errorf("the error %d came %d times", e, errors[e])
		}
	}
}

// TestLongFile: files of trees of all heights are laid, and their needs told.
func TestLongFile(t *testing.T) {
	p := newPair(t, 600)
	p.lines(t, "make /a", "make /b")
	p.lines(t, appending("/a", 0, 16384, 1)...)
	p.holds(t)
	p.lines(t, "snap one")
	for _, at := range []int{0, 1, 240, 14399, 14400, 14401, 15000, 16383} {
		p.lines(t, write("/a", at, "!"))
		p.holds(t)
		p.lines(t, "point")
		p.holds(t)
	}
	for _, at := range []int{14641, 14640, 14401, 14400, 14160, 481, 480, 241, 240, 239, 1, 0} {
		p.lines(t, fmt.Sprint("cut /a ", at))
		p.holds(t)
		p.lines(t, "point")
		p.holds(t)
	}
	p.lines(t, appending("/a", 0, 16384, 2)...)
	p.lines(t, "cut /a 0")
	p.lines(t, appending("/a", 0, 14400, 1)...)
	p.lines(t, "snap two", "unsnap one", "unsnap two", "remove /a", "point", "point")
	p.holds(t)
}

// TestBigVolumes: the map takes several blocks, up to all the blocks that may be.
func TestBigVolumes(t *testing.T) {
	for _, n := range []int{239, 240, 241, 480, 481, 2400, 4095, 4096} {
		p := newPair(t, n)
		p.holds(t)
		if free := n - 1 - 3 - shape(n); p.v.Free() != free {
			t.Errorf("%d blocks: %d are free, not %d", n, p.v.Free(), free)
		}
		p.lines(t, "make /a", write("/a", 0, text(500, 3)), "snap s", "dir /d", "point", "unsnap s")
		p.holds(t)
		p.mounted(t).holds(t)
	}
}

// TestSixtyFiles: as many nodes as may be, and a table of several blocks.
func TestSixtyFiles(t *testing.T) {
	p := newPair(t, 200)
	p.lines(t, "dir /d")
	for i := range 58 {
		dir := []string{"", "/d"}[i%2]
		p.lines(t, fmt.Sprintf("make %s/f%d", dir, i), write(fmt.Sprintf("%s/f%d", dir, i), 0, text(i, i)))
	}
	p.holds(t)
	if e := p.does(t, command(t, "make /more")); e != api.ErrFileLong {
		t.Error(e)
	}
	p.lines(t, "point", "snap s", "remove /f0", "remove /d/f57", "dir /new", "link /d/f1 /new/x")
	p.holds(t)
	p.lines(t, "snap u")
	p.holds(t)
	p.reaches(t, nil)
	p.mounted(t).holds(t)
}

// TestLogRoom: a point is made just if the log has no room for the line.
func TestLogRoom(t *testing.T) {
	edges := map[int]int{}
	for long := range 160 {
		// The lines are of odd lengths and of even ones, so that one fits to the byte.
		for _, path := range []string{"/a", "/bc"} {
			p := newPair(t, 100).lines(t, "make /a", "make /bc", write("/a", 0, text(512, 1)), "cut /a 0")
			at, room := p.m.number, p.m.room()
			line := write(path, 0, text(long, 2))
			p.lines(t, line)
			want := at
			if len(line)+2 > room {
				want++
			}
			if p.v.Number() != want {
				t.Fatalf("a line of %d bytes, room for %d: %d points", len(line), room, p.v.Number()-at)
			}
			edges[len(line)+2-room]++
			p.holds(t)
		}
	}
	if edges[-1] == 0 || edges[0] == 0 || edges[1] == 0 {
		t.Errorf("%v", edges)
	}
}

// TestLogRoomOfRefused: no point is made for a command that files refuse; one is made for one that does not fit.
func TestLogRoomOfRefused(t *testing.T) {
	p := newPair(t, 32).lines(t, "make /a", write("/a", 0, text(512, 1)), "cut /a 0")
	at := p.v.Number()
	for _, x := range []struct {
		line string
		want api.Errno
	}{
		{write("/b", 0, text(512, 1)), api.ErrFileNone},
		{write("/", 0, text(512, 1)), api.ErrFileKind},
		{write("/a", 1, text(512, 1)), api.ErrFileLong},
		{"snap a", api.OK},
	} {
		q := p.clone()
		if e := q.does(t, command(t, x.line)); e != x.want {
			t.Fatalf("%.40s: %d", x.line, e)
		}
		q.holds(t)
		if x.want != api.OK && q.v.Number() != at {
			t.Fatalf("%.40s: a point", x.line)
		}
	}
	// The log is full, the tree is what it was at the last point: one point all the same.
	p = newPair(t, 32).lines(t, "make /a", "point")
	for p.m.room() > 500 {
		p.lines(t, write("/a", 0, "xy"), "cut /a 0")
	}
	at = p.v.Number()
	if p.m.differs(p.m.tree.Nodes()) || len(p.m.log) == 0 {
		t.Fatal("no such volume")
	}
	p.lines(t, write("/a", 0, text(480, 1)))
	if p.v.Number() != at+1 {
		t.Fatalf("%d points", p.v.Number()-at)
	}
	p.holds(t)
	// The same of one that does not fit behind it either, though it is a point.
	l := fillings(t)
	p = l[len(l)-1]
	for p.m.room() > 500 {
		p.lines(t, "cut /a 240", "cut /a 240")
	}
	at = p.v.Number()
	if e := p.does(t, command(t, write("/a", 0, text(480, 1)))); e != api.ErrNoSpace || p.v.Number() != at+1 {
		t.Fatalf("%d, %d points", e, p.v.Number()-at)
	}
	p.holds(t)
}

// fillings are volumes that are fuller and fuller, each at a point: with files of a chunk (/a), of two (/f0, /f1, ..), and with a long one (/b).
func fillings(t testing.TB) (l []*pair) {
	t.Helper()
	p := newPair(t, 80).lines(t, "make /a", write("/a", 0, text(240, 1)), "make /b")
	for i := range 10 {
		p.lines(t, fmt.Sprint("make /f", i), write(fmt.Sprint("/f", i), 0, text(480, i)))
	}
	p.lines(t, "point", "snap s")
	l = append(l, p.clone())
	for at := 0; p.does(t, command(t, write("/b", at, text(240, at)))) == api.OK; at += 240 {
		p.lines(t, "point")
		l = append(l, p.clone())
	}
	// What is cut off stays in the snapshot, and a cut needs less room than a write.
	for i := 0; p.does(t, command(t, fmt.Sprintf("cut /f%d 479", i))) == api.OK; i++ {
		p.lines(t, "point")
		l = append(l, p.clone())
	}
	return l
}

// TestRoom: each kind of command is refused just if it needs more than is free, and tells so ahead.
func TestRoom(t *testing.T) {
	refused, done := map[int]int{}, map[int]int{}
	for _, p := range fillings(t) {
		free := p.v.Free()
		for _, s := range []string{
			"make /x", "dir /x", write("/a", 0, "x"), write("/a", 0, text(240, 1)), "cut /a 1", "cut /a 240", "cut /f5 241", "link /a /x", "rename /a /x",
			"remove /a", "remove /f5", "snap x", "unsnap s", write("/a", 240, text(480, 9)),
		} {
			q := p.clone()
			c := command(t, s)
			need, e := q.v.Need(c)
			fine(t, e)
			at := q.v.Number()
			e = q.does(t, c)
			if (e == api.ErrNoSpace) != (need > free) {
				t.Fatalf("%.30s needs %d of %d: %d", s, need, free, e)
			}
			if e == api.OK {
				done[c.Kind]++
			} else {
				refused[c.Kind]++
				// The tree is that of the last point: another point would help nothing.
				if q.v.Number() != at {
					t.Fatalf("%.30s: a point", s)
				}
			}
			q.holds(t)
		}
	}
	for kind := range api.CmdKinds {
		if (refused[kind] == 0) != (kind == api.CmdUnsnap) || done[kind] == 0 {
			t.Errorf("kind %d was refused %d times, done %d times", kind, refused[kind], done[kind])
		}
	}
}

// TestRoomBehindAPoint: what does not fit as things stand, but does behind a point, is done; the point is told by Number.
func TestRoomBehindAPoint(t *testing.T) {
	helped, not := 0, 0
	var l []*pair
	// /b has blocks at the last point that are free behind the next one, /a has next to none.
	for _, s := range []string{"cut /b 0", "cut /a 239"} {
		for _, p := range fillings(t) {
			if p.does(t, command(t, s)) == api.OK {
				l = append(l, p)
			}
		}
	}
	for _, p := range l {
		for _, s := range []string{"make /x", write("/a", 0, "x"), "snap x", "remove /a", "link /a /x", write("/a", 239, text(512, 3))} {
			q := p.clone()
			c := command(t, s)
			need, _ := q.v.Need(c)
			at, free := q.v.Number(), q.v.Free()
			e := q.does(t, c)
			points := q.v.Number() - at
			if c.Kind == api.CmdSnap && e == api.OK {
				points--
			}
			if (points == 1) != (need > free) || points > 1 {
				t.Fatalf("%.30s needs %d of %d: %d, %d points", s, need, free, e, points)
			}
			if e != api.OK {
				not++
			} else {
				helped += points
			}
			q.holds(t)
		}
	}
	if helped < 20 || not < 20 {
		t.Errorf("a point helped %d times, and %d times not", helped, not)
	}
}

// TestRoomIsKept: whatever was answered OK comes to a point, and a snapshot can always be taken away, however full the volume is.
func TestRoomIsKept(t *testing.T) {
	full := 0
	for seed := range 40 {
		chance := rand.New(rand.NewSource(int64(seed)))
		p := newPair(t, 32+chance.Intn(40))
		for i := range 120 {
			c := byChance(chance, p.m.tree, p.m.snaps)
			if i%3 == 0 { // grow
				c = api.Command{Kind: api.CmdWrite, Path: "/g", At: 0, Data: text(512, i)}
				if n, e := p.m.tree.Get("/g"); e != api.OK {
					c = api.Command{Kind: api.CmdMake, Path: "/g"}
				} else {
					c.At = chance.Intn(len(n.Data) + 1)
				}
			}
			if p.does(t, c) == api.ErrNoSpace {
				full++
			}
			q := p.clone()
			for range 3 {
				q.points(t)
			}
			for len(q.m.snaps) > 0 {
				q.lines(t, "unsnap "+q.m.snaps[chance.Intn(len(q.m.snaps))].Name)
			}
			q.points(t)
			q.holds(t)
		}
	}
	if full < 500 {
		t.Errorf("it was full %d times", full)
	}
}

// TestSnapshots: names, numbers and planes.
func TestSnapshots(t *testing.T) {
	p := newPair(t, 200).lines(t, "make /a")
	for i := range 7 {
		p.lines(t, write("/a", i, "x"), fmt.Sprint("snap s", i))
		x := p.v.Snaps()[i]
		if x.Name != fmt.Sprint("s", i) || x.Id != i+1 || x.Plane != i+1 {
			t.Errorf("%v", x)
		}
	}
	p.holds(t)
	for line, want := range map[string]api.Errno{"snap s3": api.ErrSnapThere, "snap t": api.ErrTooMany, "unsnap t": api.ErrSnapNone, "unsnap s": api.ErrSnapNone} {
		at := p.v.Number()
		if e := p.does(t, command(t, line)); e != want || p.v.Number() != at {
			t.Errorf("%s: %d", line, e)
		}
		p.holds(t)
	}
	// The least plane that is none's, and a number that none had.
	p.lines(t, "unsnap s4", "unsnap s1", "unsnap s6", "snap s1", "snap n", "snap s6")
	var l []string
	for _, x := range p.v.Snaps() {
		l = append(l, fmt.Sprint(x.Name, " ", x.Id, " ", x.Plane))
	}
	same(t, "Snaps", l, []string{"s0 1 1", "s2 3 3", "s3 4 4", "s5 6 6", "s1 8 2", "n 9 5", "s6 10 7"})
	p.holds(t)
	p.reaches(t, nil)
	// Of none the next number is still a new one, also mounted anew.
	for _, x := range p.v.Snaps() {
		p.lines(t, "unsnap "+x.Name)
	}
	p = p.mounted(t)
	p.lines(t, "snap z")
	if x := p.v.Snaps(); len(x) != 1 || x[0].Id != 11 || x[0].Plane != 1 {
		t.Errorf("%v", x)
	}
}

// TestSnapOfWhatIsInTheLog: a snapshot has what was done behind the last point, and is not changed by what is done then.
func TestSnapOfWhatIsInTheLog(t *testing.T) {
	p := newPair(t, 64).lines(t, "make /a", write("/a", 0, "old"))
	was := map[int]*files.Tree{1: p.v.Tree()}
	p.lines(t, "snap s")
	p.lines(t, write("/a", 0, "new"), "make /b", "point", "remove /b", "point", write("/a", 3, text(500, 1)), "point", "point", "cut /a 0", "point")
	p.reaches(t, was)
	p = p.mounted(t)
	p.reaches(t, was)
	p.lines(t, "unsnap s")
	p.holds(t)
	p.reaches(t, nil)
}

// TestUnsnapOfAChangedTree: taking a snapshot away is a point of the tree as it is.
func TestUnsnapOfAChangedTree(t *testing.T) {
	p := newPair(t, 64).lines(t, "make /a", "snap s", "snap u", "make /b", "unsnap s")
	p.holds(t)
	if len(p.m.log) != 0 || p.m.differs(p.m.tree.Nodes()) {
		t.Error("no point")
	}
	p.reaches(t, nil)
}

// TestExamples are those of the document.
func TestExamples(t *testing.T) {
	p := newPair(t, 64)
	if p.v.Free() != 59 {
		t.Error(p.v.Free())
	}
	p.lines(t, "make /a", "snap s")
	l := p.v.Snaps()
	if len(l) != 1 || l[0].Name != "s" || l[0].Id != 1 || l[0].Plane != 1 {
		t.Error(l)
	}
	if e := p.does(t, command(t, "snap s")); e != api.ErrSnapThere {
		t.Error(e)
	}
	// Of the examples of the whole: what is written stays written, whichever way it is asked.
	p = newPair(t, 200).lines(t, "make /a", "write /a 0 6162", "snap h.1", "write /a 0 7a7a")
	for _, q := range []*pair{p, p.mounted(t)} {
		if s, e := q.v.Tree().Read("/a", 0, 9); s != "zz" || e != api.OK {
			t.Error(s, e)
		}
		q.reaches(t, nil)
	}
}

// TestPoint: each is one more, also of nothing new; the log begins anew.
func TestPoint(t *testing.T) {
	p := newPair(t, 40)
	for range 100 {
		at, free := p.v.Number(), p.v.Free()
		p.lines(t, "point")
		if p.v.Number() != at+1 || p.v.Free() != free {
			t.Fatalf("%d, %d free ones behind %d", p.v.Number(), p.v.Free(), free)
		}
		p.holds(t)
	}
	p.lines(t, "make /a", "make /b")
	p.holds(t)
	p.lines(t, "point")
	p.holds(t)
}

// TestNeed: it changes nothing, and is what Do goes by.
func TestNeed(t *testing.T) {
	p := newPair(t, 64)
	for line, want := range map[string]int{
		"make /a": 1 + 1 + 1 + 1 + 18,
		"dir /a":  1 + 1 + 2 + 1 + 18,
		"snap s":  1 + 1 + 18,
	} {
		n, e := p.v.Need(command(t, line))
		if n != want || e != api.OK {
			t.Errorf("%s: %d %d, not %d", line, n, e, want)
		}
	}
	p.holds(t)
	p.lines(t, "make /a", write("/a", 0, text(480, 1)), "snap s")
	for line, want := range map[string]int{
		// The map, the snapshots, and what is spared: nothing is another one.
		write("/a", 0, text(480, 1)): 1 + 1 + 18,
		"snap u":                     1 + 1 + 18,
		"cut /a 480":                 1 + 1 + 3,
		"unsnap s":                   1 + 1,
		// Chunks, pointer blocks or entries, and the table.
		write("/a", 0, "xxx"):         1 + 1 + 2 + 1 + 18,
		write("/a", 200, text(99, 3)): 1 + 1 + 3 + 1 + 18,
		write("/a", 480, "x"):         1 + 1 + 2 + 1 + 18,
		"cut /a 241":                  1 + 1 + 2 + 1 + 3,
		"cut /a 240":                  1 + 1 + 0 + 1 + 3,
		"cut /a 239":                  1 + 1 + 1 + 1 + 3,
		"cut /a 0":                    1 + 1 + 0 + 1 + 3,
		"remove /a":                   1 + 1 + 1 + 1 + 3,
		"link /a /b":                  1 + 1 + 1 + 1 + 18,
		"rename /a /b":                1 + 1 + 1 + 1 + 18,
	} {
		if n, e := p.v.Need(command(t, line)); n != want || e != api.OK {
			t.Errorf("%.30s: %d %d, not %d", line, n, e, want)
		}
	}
	for line, want := range map[string]api.Errno{"make /a": api.ErrFileThere, "cut /b 0": api.ErrFileNone, "snap s": api.ErrSnapThere, "unsnap t": api.ErrSnapNone, "write /a 481 -": api.ErrFileLong} {
		if n, e := p.v.Need(command(t, line)); n != 0 || e != want {
			t.Errorf("%s: %d %d", line, n, e)
		}
	}
	p.lines(t, "snap 2", "snap 3", "snap 4", "snap 5", "snap 6", "snap 7")
	if n, e := p.v.Need(command(t, "snap 8")); n != 0 || e != api.ErrTooMany {
		t.Error(n, e)
	}
	if n, e := p.v.Need(command(t, "snap s")); n != 0 || e != api.ErrSnapThere {
		t.Error(n, e)
	}
	p.holds(t)
}

// wrongCommands may not be.
func wrongCommands() []api.Command {
	return []api.Command{
		{Kind: -1, Path: "/a"}, {Kind: api.CmdKinds, Path: "/a"}, {Kind: 1 << 40}, {},
		{Kind: api.CmdMake, Path: ""}, {Kind: api.CmdMake, Path: "a"}, {Kind: api.CmdMake, Path: "/a", To: "/b"}, {Kind: api.CmdMake, Path: "/a", At: 1},
		{Kind: api.CmdMake, Path: "/a", Data: "x"}, {Kind: api.CmdMake, Path: strings.Repeat("/a", 9)}, {Kind: api.CmdDir, Path: "//"},
		{Kind: api.CmdWrite, Path: "/a", At: -1}, {Kind: api.CmdWrite, Path: "/a", At: 16385}, {Kind: api.CmdWrite, Path: "/a", Data: text(513, 1)},
		{Kind: api.CmdWrite, Path: "/a", Data: strings.Repeat("x", 1<<20)},
		{Kind: api.CmdCut, Path: "/a", At: -1}, {Kind: api.CmdCut, Path: "/a", At: 16385}, {Kind: api.CmdLink, Path: "/a"}, {Kind: api.CmdRename, Path: "/a", To: "b"},
		{Kind: api.CmdSnap, Path: "/a"}, {Kind: api.CmdSnap, Path: ""}, {Kind: api.CmdSnap, Path: strings.Repeat("a", 17)}, {Kind: api.CmdSnap, Path: "A"},
		{Kind: api.CmdSnap, Path: "a", At: 1}, {Kind: api.CmdUnsnap, Path: "."}, {Kind: api.CmdUnsnap, Path: "s", Data: "x"},
	}
}

// TestWrongCommands: they are refused, ahead of all else.
func TestWrongCommands(t *testing.T) {
	p := newPair(t, 64).lines(t, "make /a", "snap s", write("/a", 0, "x"))
	for _, c := range wrongCommands() {
		if n, e := p.v.Need(c); n != 0 || e != api.ErrArg {
			t.Errorf("Need(%s): %d %d", short(c), n, e)
		}
		if e := p.v.Do(c); e != api.ErrArg {
			t.Errorf("Do(%s): %d", short(c), e)
		}
	}
	p.holds(t)
	p.d.Crash("")
	if e := p.v.Point(); e != api.ErrDead {
		t.Fatal(e)
	}
	for _, c := range wrongCommands() {
		if n, e := p.v.Need(c); n != 0 || e != api.ErrArg {
			t.Errorf("Need(%s) of a dead one: %d %d", short(c), n, e)
		}
		if e := p.v.Do(c); e != api.ErrArg {
			t.Errorf("Do(%s) of a dead one: %d", short(c), e)
		}
	}
}

// TestErrorsInOrder: of several errors that one is told that is named first.
func TestErrorsInOrder(t *testing.T) {
	l := fillings(t)
	p := l[len(l)-1]
	for line, want := range map[string]api.Errno{
		"make /a": api.ErrFileThere, "make /x/y": api.ErrFileNone, "make /x": api.ErrNoSpace, "snap s": api.ErrSnapThere, "snap t": api.ErrNoSpace, "unsnap t": api.ErrSnapNone,
		"write /x 0 00": api.ErrFileNone, "write /a 241 00": api.ErrFileLong, write("/a", 0, text(512, 8)): api.ErrNoSpace,
	} {
		if e := p.does(t, command(t, line)); e != want {
			t.Errorf("%.30s: %d, not %d", line, e, want)
		}
	}
	p.holds(t)
	// Seven snapshots and no room: there are too many of them.
	p = newPair(t, 64).lines(t, "make /a")
	for i := range 7 {
		p.lines(t, fmt.Sprint("snap s", i))
	}
	for at := 0; p.does(t, command(t, write("/a", at, text(240, at)))) == api.OK; at += 240 {
	}
	for line, want := range map[string]api.Errno{
		"snap s3": api.ErrSnapThere, "snap t": api.ErrTooMany, "unsnap t": api.ErrSnapNone, "dir /b": api.ErrNoSpace, "make /a": api.ErrFileThere,
	} {
		if e := p.does(t, command(t, line)); e != want {
			t.Errorf("%s: %d, not %d", line, e, want)
		}
	}
	p.holds(t)
}

// TestClone: both go their own way, on disks of their own.
func TestClone(t *testing.T) {
	p := newPair(t, 64).lines(t, "make /a", "snap s", write("/a", 0, text(300, 1)))
	q := p.clone()
	r := p.clone()
	q.lines(t, "remove /a", "unsnap s", "make /b", "snap u", "dir /d")
	p.lines(t, write("/a", 300, "more"), "point", "make /c", "snap v")
	for _, x := range []*pair{p, q, r} {
		x.holds(t)
		x.reaches(t, nil)
		x.mounted(t).holds(t)
	}
	// A dead one's clone is dead; one whose original dies behind that is not.
	p.d.Crash("")
	before := p.clone()
	if e := p.v.Point(); e != api.ErrDead {
		t.Fatal(e)
	}
	d, nv := p.d.Clone(), p.nv.Clone()
	d.Revive()
	after := p.v.Clone(d, nv)
	if !after.Dead() || after.Point() != api.ErrDead || after.Do(command(t, "make /x")) != api.ErrDead {
		t.Error("a dead one's clone is not dead")
	}
	before.d.Revive()
	if before.v.Dead() || before.v.Point() != api.OK {
		t.Error("a clone is dead with its original")
	}
}

// FuzzDo: rows of commands, a byte or two each, are done as in the model.
func FuzzDo(f *testing.F) {
	f.Add([]byte("\x00\x01\x02\x03\x04\x05\x06\x07\x08"), byte(0))
	f.Add([]byte("make a volume of these bytes, and see whether all of it is there"), byte(16))
	f.Add([]byte{0, 9, 200, 31, 77, 200, 200, 5, 5, 5, 90, 90, 120, 250, 3, 40}, byte(209))
	f.Fuzz(func(t *testing.T, row []byte, many byte) {
		p := newPair(t, 32+int(many))
		for i, b := range row[:min(len(row), 80)] {
			chance := rand.New(rand.NewSource(int64(b)*256 + int64(i%7)))
			p.does(t, byChance(chance, p.m.tree, p.m.snaps))
		}
		p.holds(t)
		p.reaches(t, nil)
		p.mounted(t).holds(t)
	})
}
