package snaps_test

import (
	"fmt"
	"runtime"
	"slices"
	"strings"
	"testing"
	"unsafe"

	"stillage/api"
	"stillage/snaps"
)

// lent is a text whose bytes its owner changes by the answered call.
func lent(s string) (string, func()) {
	b := []byte(s)
	return unsafe.String(unsafe.SliceData(b), len(b)), func() {
		for i := range b {
			b[i] = '!'
		}
	}
}

// lends hands a call a text that is changed behind it.
func lends(s string, call func(s string)) {
	s, spoil := lent(s)
	call(s)
	spoil()
}

// TestMemoryOfNames: nothing of a name that is handed in is kept.
func TestMemoryOfNames(t *testing.T) {
	l := snaps.New()
	lock := func(name string) { lends(name, func(s string) { fine(t, l.Lock(s)) }) }
	unlock := func(name string) { lends(name, func(s string) { fine(t, l.Unlock(s)) }) }
	has := func(names ...string) {
		t.Helper()
		same(t, "List", l.List(), names)
		for _, name := range names {
			if !l.Has(name) {
				t.Fatalf("%s is not locked", name)
			}
		}
	}
	for range 3 {
		lock("a")
		lock("b")
		has("a", "b")
	}
	for range 2 {
		unlock("a")
		has("a", "b")
		lends("a", func(s string) { l.Has(s) })
		has("a", "b")
	}
	unlock("a")
	has("b")
	lends("c", func(s string) { l.Unlock(s) })
	has("b")

	p := three(t)
	lends("a", func(s string) {
		_, e := snaps.Tree(p.v, s)
		fine(t, e)
	})
	lends("a", func(s string) {
		lends("b", func(u string) {
			_, _, e := snaps.Diff(p.v, s, u)
			fine(t, e)
		})
	})
	p.holds(t)
	lends("c", func(s string) {
		gone, e := snaps.Expire(p.v, []string{s}, l)
		same(t, "what is taken away", gone, []string{"a"})
		fine(t, e)
	})
	p.forget("a")
	p.holds(t)
	has("b")
}

// TestMemoryOfLists: the list that is handed in stays what it is, with the room behind it; what is answered is the caller's own.
func TestMemoryOfLists(t *testing.T) {
	p := turned(t)
	room := []string{"c", "never", "b", "in the room behind", "and more of it"}
	was := slices.Clone(room)
	l := locked(t, "0", "b", "0")
	gone, e := snaps.Expire(p.v, room[:3], l)
	fine(t, e)
	same(t, "the list, and the room behind it", room, was)
	same(t, "what is taken away", gone, []string{"a"})
	p.forget("a")
	gone = append(gone[:0], "0", "b", "c", "d")
	_ = append(gone, "e")
	p.holds(t)
	same(t, "the list, and the room behind it", room, was)

	names, again := l.List(), l.List()
	names[0] = "never"
	names = append(names[:1], "x", "y", "z")
	same(t, "another answer", again, []string{"0", "b"})
	same(t, "the next answer", l.List(), []string{"0", "b"})
	if l.Has("never") || l.Has("x") || !l.Has("b") || len(names) != 4 {
		t.Error("what was answered is kept")
	}
	// Spare room is the answer's own, too.
	full, other := again[:cap(again)], l.List()
	for i := range full {
		full[i] = "spoilt"
	}
	same(t, "another answer", other, []string{"0", "b"})
	same(t, "the next answer", l.List(), []string{"0", "b"})
}

// TestAnswersAgain: what only asks, and what is refused, changes nothing, and is answered the same again.
func TestAnswersAgain(t *testing.T) {
	p := three(t)
	p.lines(t, "make /more")
	p.holds(t)
	q := p.clone()
	for range 2 {
		p.holds(t)
		for _, name := range append(noNames(), "never") {
			snaps.Tree(p.v, name)
			snaps.Diff(p.v, name, "a")
			snaps.Diff(p.v, "a", name)
		}
		gone, e := snaps.Expire(p.v, []string{"a", "b", "c"}, snaps.New())
		same(t, "what is taken away", gone, []string{})
		fine(t, e)
		gone, e = snaps.Expire(p.v, nil, locked(t, "a", "b", "c", "d"))
		same(t, "what is taken away", gone, []string{})
		fine(t, e)
	}
	p.like(t, q)

	l := locked(t, "a", "b", "b")
	for _, name := range append(noNames(), "never") {
		l.Unlock(name)
		l.Has(name)
	}
	for _, name := range noNames() {
		l.Lock(name)
	}
	same(t, "List", l.List(), []string{"a", "b"})
	fine(t, l.Unlock("b"), l.Unlock("b"), l.Unlock("a"))
	same(t, "List", l.List(), []string{})
}

// TestClones: a volume's clone goes its own way; locks are nobody's but their own.
func TestClones(t *testing.T) {
	p := three(t)
	q, r := p.clone(), p.clone()
	l := locked(t, "b")
	p.expires(t, nil, l)
	q.expires(t, []string{"a", "c"}, snaps.New())
	r.lines(t, "snap d", "remove /a", "point", "snap e")
	for _, x := range []*pair{p, q, r} {
		x.holds(t)
		x.mounted(t).holds(t)
	}
	same(t, "what is left", p.names(), []string{"b"})
	same(t, "what is left", q.names(), []string{"a", "c"})
	same(t, "what is left", r.names(), []string{"a", "b", "c", "d", "e"})
}

// taken is how much memory there is in use.
func taken() uint64 {
	var m runtime.MemStats
	runtime.GC()
	runtime.ReadMemStats(&m)
	return m.HeapAlloc
}

// TestKeepsLittle: not the texts of which names are a part, nor names that are locked no more.
func TestKeepsLittle(t *testing.T) {
	ahead := taken()
	l := snaps.New()
	long := func(i int) string { return strings.Repeat(string(rune('a'+i%26))+string(rune('0'+i/26)), 1<<18) }
	for i := range 40 {
		// Pieces of long texts, which are all that is left of these.
		fine(t, l.Lock(long(i)[:2]), l.Lock(long(i)[2:4]))
		fine(t, l.Unlock(long(i)[4:6]))
	}
	for i := range 200000 {
		name := fmt.Sprint("n.", i)
		fine(t, l.Lock(name), l.Unlock(name))
	}
	same(t, "how many", len(l.List()), 40)
	if now := taken(); now > ahead+4<<20 {
		t.Errorf("%d bytes more", now-ahead)
	}
	for _, name := range l.List() {
		if e := l.Unlock(name); e != api.OK {
			t.Fatal(e)
		}
	}
	same(t, "List", l.List(), []string{})
}
