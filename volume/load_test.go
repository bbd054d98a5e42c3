package volume_test

import (
	"fmt"
	"maps"
	"slices"
	"strings"
	"testing"

	"stillage/api"
	"stillage/sets"
	"stillage/tables"
	"stillage/volume"
)

// shelf is a source that notes what is read, and fails where it shall.
type shelf struct {
	payloads map[int]string
	bad      map[int]api.Errno
	read     []int
}

func (s *shelf) Read(vbn int) (string, api.Errno) {
	s.read = append(s.read, vbn)
	if e := s.bad[vbn]; e != api.OK {
		return "what is told beside an error", e
	}
	payload, ok := s.payloads[vbn]
	if !ok {
		return "", api.ErrBlockAt
	}
	return payload, api.OK
}

// put lays bytes from a block on, and tells their blob; pointers are laid by the document's words.
func (s *shelf) put(vbn int, data string) api.Blob {
	if data == "" {
		return api.Blob{}
	}
	size := len(data)
	var row []int
	for data != "" {
		n := min(chunk, len(data))
		s.payloads[vbn] = data[:n]
		row, data, vbn = append(row, vbn), data[n:], vbn+1
	}
	for len(row) > 1 {
		var up []int
		for l := range slices.Chunk(row, perFork) {
			text := ""
			for _, n := range l {
				text += string([]byte{byte(n), byte(n >> 8), byte(n >> 16), byte(n >> 24)})
			}
			s.payloads[vbn] = text
			up = append(up, vbn)
			vbn++
		}
		row = up
	}
	return api.Blob{Root: row[0], Size: size}
}

// failing is a source one of whose reads fails: that ahead of which so many go well.
type failing struct {
	of   api.Source
	left int
	e    api.Errno
}

func (s *failing) Read(vbn int) (string, api.Errno) {
	s.left--
	if s.left == -1 {
		return "", s.e
	}
	return s.of.Read(vbn)
}

// shelved is a tree on a shelf: its nodes, from the blocks 100, 200, .. on, and its table from 1 on.
func shelved(t testing.TB, nodes []api.Node) (*shelf, api.Blob, []api.Inode) {
	t.Helper()
	s := &shelf{payloads: map[int]string{}, bad: map[int]api.Errno{}}
	var l []api.Inode
	for i, n := range nodes {
		l = append(l, api.Inode{Num: n.Num, Dir: n.Dir, Links: n.Links, Blob: s.put(100*(i+1), n.Data)})
	}
	text, e := tables.Inodes(l)
	fine(t, e)
	return s, s.put(1, text), l
}

// threeNodes are a root with a file of two names and a directory.
func threeNodes() []api.Node {
	return []api.Node{
		{Num: 1, Dir: true, Links: 1, Data: "\x02\x01a\x05\x01d\x07"},
		{Num: 5, Links: 2, Data: text(15000, 1)},
		{Num: 7, Dir: true, Links: 1, Data: "\x01\x01b\x05"},
	}
}

// manyNodes are a root with so many files, each of so many bytes.
func manyNodes(files, size int) []api.Node {
	nodes := []api.Node{{Num: 1, Dir: true, Links: 1}}
	var l []api.Entry
	for i := range files {
		nodes = append(nodes, api.Node{Num: i + 2, Links: 1, Data: text(size, i)})
		l = append(l, api.Entry{Name: fmt.Sprintf("f%04d", i), Num: i + 2})
	}
	nodes[0].Data, _ = tables.Entries(l)
	return nodes
}

// TestLoad: the tree is told, and the set of its blocks.
func TestLoad(t *testing.T) {
	for _, size := range []int{0, 1, 240, 241, 14400, 14401, 16384} {
		nodes := threeNodes()
		nodes[1].Data = text(size, size)
		s, table, _ := shelved(t, nodes)
		f, e := volume.Load(s, table)
		fine(t, e)
		same(t, "Nodes", f.Nodes(), nodes)
		set, e := volume.Reach(s, table)
		fine(t, e)
		want, _ := sets.Of(slices.Collect(maps.Keys(s.payloads)))
		same(t, "Reach", sets.List(set), sets.List(want))
		if set != want {
			t.Error("not the least text")
		}
	}
}

// answers are what both tell; beside an error nothing is told.
func answers(t testing.TB, s api.Source, table api.Blob) (load, reach api.Errno) {
	t.Helper()
	f, load := volume.Load(s, table)
	set, reach := volume.Reach(s, table)
	if (f == nil) != (load != api.OK) || (set == "") != (reach != api.OK) {
		t.Fatalf("Load: %d, Reach: %d, and something beside it", load, reach)
	}
	return load, reach
}

// TestLoadOfBadBlocks: the error of each block is told as it is; Reach reads all of the table, and no chunk else.
func TestLoadOfBadBlocks(t *testing.T) {
	for _, want := range []api.Errno{api.ErrIO, api.ErrDead, api.ErrBlockSum, api.ErrBlockAt, api.ErrArg, api.ErrVolumeForm, -1, 9999} {
		s, table, _ := shelved(t, threeNodes())
		for vbn, payload := range s.payloads {
			s.bad = map[int]api.Errno{vbn: want}
			load, reach := answers(t, s, table)
			wantReach := want
			// What points to chunks stands behind them; all others are chunks, of which only the table's are read.
			if vbn >= 100 && !slices.Contains([]int{263, 264, 265}, vbn) {
				wantReach = api.OK
			}
			if load != want || reach != wantReach {
				t.Fatalf("block %d, of %d bytes: Load %d, Reach %d, not %d, %d", vbn, len(payload), load, reach, want, wantReach)
			}
		}
	}
}

// TestLoadOfReadsThatFail: whichever read fails, its error is told, also of a block that could be read ahead of it.
func TestLoadOfReadsThatFail(t *testing.T) {
	// A table of one block, and one of several.
	for _, nodes := range [][]api.Node{threeNodes(), manyNodes(36, 250)} {
		s, table, _ := shelved(t, nodes)
		for what, f := range map[string]func(s api.Source) (bool, api.Errno){
			"Load":  func(s api.Source) (bool, api.Errno) { x, e := volume.Load(s, table); return x == nil, e },
			"Reach": func(s api.Source) (bool, api.Errno) { x, e := volume.Reach(s, table); return x == "", e },
		} {
			s.read = nil
			if none, e := f(s); none || e != api.OK {
				t.Fatal(e)
			}
			for n := range len(s.read) {
				if none, e := f(&failing{s, n, api.ErrIO}); !none || e != api.ErrIO {
					t.Errorf("%s, the read %d of %d: %d", what, n, len(s.read), e)
				}
			}
		}
	}
}

// TestLoadInOrder: of several blocks that can't be read the first one is told: the table's, then those of each inode in turn.
func TestLoadInOrder(t *testing.T) {
	s, table, _ := shelved(t, threeNodes())
	s.bad = map[int]api.Errno{table.Root: 1001, 100: 1002, 265: 1003, 263: 1004, 210: 1005, 264: 1006, 300: 1007}
	for _, x := range []struct{ vbn, load, reach int }{
		{table.Root, 1001, 1001}, {100, 1002, 1003}, {265, 1003, 1003}, {263, 1004, 1004}, {210, 1005, 1006}, {264, 1006, 1006}, {300, 1007, 0}, {0, 0, 0},
	} {
		load, reach := answers(t, s, table)
		if int(load) != x.load || int(reach) != x.reach {
			t.Fatalf("%d is the first bad one: Load %d, Reach %d", x.vbn, load, reach)
		}
		delete(s.bad, x.vbn)
	}
	s.read = nil
	_, e := volume.Load(s, table)
	fine(t, e)
	// The table's block, the root's entries, the file from its root on, the directory's entries.
	if want := []int{table.Root, 100, 265, 263, 200}; !slices.Equal(s.read[:5], want) || s.read[len(s.read)-1] != 300 {
		t.Errorf("%v", s.read)
	}
}

// TestLoadOfNoTrees: what is no table, and what makes no tree.
func TestLoadOfNoTrees(t *testing.T) {
	s, table, inodes := shelved(t, threeNodes())
	good := s.payloads[table.Root]
	for what, x := range map[string]struct {
		table       api.Blob
		text        string
		load, reach api.Errno
	}{
		"nothing":             {table, good, api.OK, api.OK},
		"no bytes":            {api.Blob{}, good, api.ErrVolumeForm, api.ErrVolumeForm},
		"a root of no bytes":  {api.Blob{Root: 1}, good, api.ErrTreeForm, api.ErrTreeForm},
		"bytes of no root":    {api.Blob{Size: 1}, good, api.ErrTreeForm, api.ErrTreeForm},
		"too many bytes":      {api.Blob{Root: 1, Size: 16385}, good, api.ErrTreeForm, api.ErrTreeForm},
		"below 0":             {api.Blob{Root: 1, Size: -1}, good, api.ErrTreeForm, api.ErrTreeForm},
		"another size":        {api.Blob{Root: 1, Size: len(good) + 1}, good, api.ErrTreeForm, api.ErrTreeForm},
		"no such block":       {api.Blob{Root: 77, Size: 5}, good, api.ErrBlockAt, api.ErrBlockAt},
		"no inodes' bytes":    {table, strings.Repeat("x", len(good)), api.ErrVolumeForm, api.ErrVolumeForm},
		"a byte behind them":  {api.Blob{Root: 1, Size: len(good) + 1}, good + "\x00", api.ErrVolumeForm, api.ErrVolumeForm},
		"a byte less":         {api.Blob{Root: 1, Size: len(good) - 1}, good[:len(good)-1], api.ErrVolumeForm, api.ErrVolumeForm},
		"no inodes":           {api.Blob{Root: 1, Size: 1}, "\x00", api.ErrVolumeForm, api.OK},
		"an inode that fails": {table, strings.Replace(good, "\x05\x00\x02", "\x05\x00\x03", 1), api.ErrVolumeForm, api.OK},
	} {
		s.payloads[1] = x.text
		load, reach := answers(t, s, x.table)
		if load != x.load || reach != x.reach {
			t.Errorf("%s: Load %d, Reach %d, not %d, %d", what, load, reach, x.load, x.reach)
		}
	}
	// An error of a blob comes ahead of what is wrong with the tree, also of a later inode; one of the table's form ahead of it.
	s.payloads[1] = good
	l := slices.Clone(inodes)
	l[0].Dir, l[2].Blob.Size = false, 9
	text, _ := tables.Inodes(l)
	if load, reach := answers(t, s, s.put(1, text)); load != api.ErrTreeForm || reach != api.OK {
		t.Errorf("Load %d, Reach %d", load, reach)
	}
	l = slices.Clone(inodes)
	l[1].Blob.Size = 500
	text, _ = tables.Inodes(l)
	if load, reach := answers(t, s, s.put(1, text)); load != api.ErrTreeForm || reach != api.ErrTreeForm {
		t.Errorf("Load %d, Reach %d", load, reach)
	}
}

// TestLoadOfMany: a table of more inodes than a tree may have.
func TestLoadOfMany(t *testing.T) {
	for _, many := range []int{59, 60, 61, 100, 1000} {
		s, table, _ := shelved(t, manyNodes(many-1, 0))
		load, reach := answers(t, s, table)
		want := api.OK
		if many > 60 {
			want = api.ErrVolumeForm
		}
		if load != want || reach != api.OK {
			t.Errorf("%d inodes: Load %d, Reach %d", many, load, reach)
		}
	}
}

// TestReachOfGreatNumbers: a set has no number above 65535.
func TestReachOfGreatNumbers(t *testing.T) {
	for vbn, want := range map[int]api.Errno{4096: api.OK, 65535: api.OK, 65536: api.ErrVolumeForm, 1 << 30: api.ErrVolumeForm, 1<<32 - 1: api.ErrVolumeForm} {
		// The table of one inode, and of so many that it has a pointer block.
		for _, files := range []int{0, 59} {
			s, table, _ := shelved(t, manyNodes(files, 0))
			root := s.payloads[table.Root]
			s.payloads[vbn] = root
			load, reach := answers(t, s, api.Blob{Root: vbn, Size: table.Size})
			if load != api.OK || reach != want {
				t.Errorf("a table in block %d: Load %d, Reach %d", vbn, load, reach)
			}
		}
		// A chunk of a file.
		nodes := []api.Node{{Num: 1, Dir: true, Links: 1, Data: "\x01\x01a\x02"}, {Num: 2, Links: 1, Data: text(480, 1)}}
		s, table, l := shelved(t, nodes)
		s.payloads[vbn] = s.payloads[201]
		b := []byte(s.payloads[l[1].Blob.Root])
		b[4], b[5], b[6], b[7] = byte(vbn), byte(vbn>>8), byte(vbn>>16), byte(vbn>>24)
		s.payloads[l[1].Blob.Root] = string(b)
		if load, reach := answers(t, s, table); load != api.OK || reach != want {
			t.Errorf("a chunk in block %d: Load %d, Reach %d", vbn, load, reach)
		}
		// It is told behind what can't be read.
		s.bad[l[1].Blob.Root] = api.ErrIO
		if load, reach := answers(t, s, table); load != api.ErrIO || reach != api.ErrIO {
			t.Errorf("Load %d, Reach %d", load, reach)
		}
	}
	s := &shelf{payloads: map[int]string{-5: "\x01\x01\x01\x01\x00\x00"}}
	if load, reach := answers(t, s, api.Blob{Root: -5, Size: 6}); load != api.ErrVolumeForm || reach != api.ErrVolumeForm {
		t.Errorf("Load %d, Reach %d", load, reach)
	}
}
