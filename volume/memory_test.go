package volume_test

import (
	"runtime"
	"strings"
	"testing"
	"unsafe"

	"stillage/api"
	"stillage/volume"
)

// TestMemory: what is answered is the caller's own.
func TestMemory(t *testing.T) {
	p := newPair(t, 64).lines(t, "make /a", "snap s", "snap u", write("/a", 0, "x"))
	l, again := p.v.Snaps(), p.v.Snaps()
	l[0].Name, l[1] = "never", api.Snap{}
	l = append(l[:1], api.Snap{Name: "a"}, api.Snap{Name: "b"})
	same(t, "another answer", again, p.m.snaps)
	f := p.v.Tree()
	fine(t, f.Do(command(t, "remove /a")), f.Do(command(t, "make /b")))
	m := p.v.Map()
	fine(t, m.Clear(0), m.Clear(1), m.Put(5, "\x02"))
	p.holds(t)
	p.lines(t, "make /c", "snap w", "unsnap s")
	p.holds(t)
	// What was answered stays what it was, whatever is done then.
	same(t, "an earlier answer", again[0].Name+again[1].Name, "su")
	same(t, "a tree", len(f.Nodes()), 2)
	runtime.KeepAlive(l)
}

// lent is a text whose bytes its owner changes by the answered call.
func lent(s string) (string, func()) {
	b := []byte(s)
	return unsafe.String(unsafe.SliceData(b), len(b)), func() {
		for i := range b {
			b[i] = '!'
		}
	}
}

// TestMemoryOfTexts: nothing of a text that is handed in is kept.
func TestMemoryOfTexts(t *testing.T) {
	p := newPair(t, 64)
	for _, line := range []string{
		"make /abc", "dir /d", "write /abc 0 616263", "snap abc", "write /abc 1 7879", "link /abc /d/link", "snap def", "rename /abc /d/other", "unsnap abc",
		"cut /d/link 2", "write /d/link 2 71", "snap ghi", "remove /d/other", "unsnap def",
	} {
		c := command(t, line)
		path, spoilPath := lent(c.Path)
		to, spoilTo := lent(c.To)
		data, spoilData := lent(c.Data)
		p.m.do(c)
		c.Path, c.To, c.Data = path, to, data
		_, e := p.v.Need(c)
		fine(t, e, p.v.Do(c))
		spoilPath()
		spoilTo()
		spoilData()
		p.holds(t)
		p.mounted(t).holds(t)
	}
}

// lender is a source whose payloads are spoilt behind a call.
type lender struct {
	of     *shelf
	spoils []func()
}

func (s *lender) Read(vbn int) (string, api.Errno) {
	payload, e := s.of.Read(vbn)
	payload, spoil := lent(payload)
	s.spoils = append(s.spoils, spoil)
	return payload, e
}

// TestMemoryOfSources: nothing of a payload that was read is kept.
func TestMemoryOfSources(t *testing.T) {
	for _, size := range []int{0, 7, 240, 500} {
		nodes := threeNodes()
		nodes[1].Data = text(size, 1)
		s, table, _ := shelved(t, nodes)
		l := &lender{of: s}
		f, e := volume.Load(l, table)
		fine(t, e)
		want, e := volume.Reach(s, table)
		fine(t, e)
		set, e := volume.Reach(l, table)
		fine(t, e)
		for _, spoil := range l.spoils {
			spoil()
		}
		same(t, "Nodes", f.Nodes(), nodes)
		same(t, "Reach", set, want)
	}
}

// TestAnswersAgain: what only asks changes nothing, and is answered the same again; nor do commands that are refused.
func TestAnswersAgain(t *testing.T) {
	l := fillings(t)
	p := l[len(l)-1]
	wasD, wasNV := p.d.Clone(), p.nv.Clone()
	ask := func() string {
		var s strings.Builder
		s.WriteString(told(t, p.v))
		s.WriteString(show([]int{p.v.Free(), p.v.Number()}) + show(p.v.Map().Text()))
		for _, line := range []string{"make /x", "snap x", "unsnap s", "cut /b 1", "remove /none"} {
			n, e := p.v.Need(command(t, line))
			s.WriteString(show([]int{n, int(e)}))
		}
		for vbn := range 80 {
			payload, e := p.v.Read(vbn)
			s.WriteString(show(payload) + show(int(e)))
		}
		return s.String()
	}
	want := ask()
	for _, line := range []string{"make /x", "snap x", "unsnap x", "snap s", "make /a", "write /a 0 78", "remove /none", "rename / /x"} {
		if e := p.does(t, command(t, line)); e == api.OK {
			t.Fatalf("%s is not refused", line)
		}
		for range 2 {
			same(t, line, ask(), want)
		}
	}
	for _, c := range wrongCommands() {
		p.v.Do(c)
	}
	same(t, "wrong commands", ask(), want)
	untouched(t, "what is refused", p.d, wasD)
	untouched(t, "what is refused", p.nv, wasNV)
	p.holds(t)
}

// taken is how much memory there is in use.
func taken() uint64 {
	var m runtime.MemStats
	runtime.GC()
	runtime.ReadMemStats(&m)
	return m.HeapAlloc
}

// TestKeepsLittle: not the texts of which commands are a part, nor what was there at earlier points.
func TestKeepsLittle(t *testing.T) {
	p := newPair(t, 200)
	v := p.v
	do := func(kind int, path string, at int, data string) {
		t.Helper()
		if e := v.Do(api.Command{Kind: kind, Path: path, At: at, Data: data}); e != api.OK {
			t.Fatal(kind, path, e)
		}
	}
	ahead := taken()
	for i := range 40 {
		// Pieces of long texts, which are all that is left of these.
		more := strings.Repeat("/"+string(rune('a'+i%26))+string(rune('0'+i/26)), 1<<18)
		do(api.CmdMake, more[300:303], 0, "")
		do(api.CmdWrite, more[:3], 0, more[600:640])
		if i%7 == 0 {
			do(api.CmdSnap, more[301:303], 0, "")
		}
	}
	for i := range 300 {
		do(api.CmdWrite, "/a0", 0, text(512, i))
		fine(t, v.Point())
	}
	if now := taken(); now > ahead+4<<20 {
		t.Errorf("%d bytes more", now-ahead)
	}
	runtime.KeepAlive(p)
}
