package snaps_test

import (
	"fmt"
	"math/rand"
	"slices"
	"strings"
	"testing"

	"stillage/api"
	"stillage/snaps"
)

// noNames are texts that are none.
func noNames() []string {
	return []string{
		"", ".", "..", "A", "aB", "a/b", "/", "/a", "a b", " a", "a ", "a\x00", "\x00", "\xff", "a\n", "a,b", "a:", "ä", "*", "`", "{",
		strings.Repeat("a", 17), strings.Repeat(".", 17), strings.Repeat("a", 1<<20),
	}
}

// edgeNames are such as are names only just, rising.
func edgeNames() []string {
	return []string{
		"-", "--", "-a", "...", ".a", "0", "9", "_", "a", "a-", "a.", "a.b-c_9", "a0", "aa", strings.Repeat("a", 15), strings.Repeat("a", 16), "b", "h.1", "h.10", "h.2", "z",
	}
}

// lockModel is locks by the words of the document.
type lockModel []string

// do does a call: Lock, Unlock or Has of a name.
func (m *lockModel) do(call int, name string) int {
	at := slices.Index(*m, name)
	switch {
	case call == 2 && at >= 0:
		return 1
	case call == 2:
		return 0
	case !slices.Contains(edgeNames(), name):
		return int(api.ErrSnapName)
	case call == 0:
		*m = append(*m, name)
	case at < 0:
		return int(api.ErrSnapNone)
	default:
		*m = slices.Delete(*m, at, at+1)
	}
	return int(api.OK)
}

// list are the names, each once, rising.
func (m lockModel) list() (l []string) {
	for _, name := range edgeNames() {
		if slices.Contains(m, name) {
			l = append(l, name)
		}
	}
	return l
}

// ask does a call.
func ask(l *snaps.Locks, call int, name string) int {
	switch call {
	case 0:
		return int(l.Lock(name))
	case 1:
		return int(l.Unlock(name))
	}
	if l.Has(name) {
		return 1
	}
	return 0
}

// TestLockRows: all rows of six calls on two names, and on one that is none.
func TestLockRows(t *testing.T) {
	names := []string{"a", "h.1", ".."}
	const calls = 6
	for row := range calls * calls * calls * calls * calls * calls {
		l, m := snaps.New(), lockModel{}
		at := row
		for range calls {
			call, name := at%2, names[at/2%3]
			at /= calls
			if got, want := ask(l, call, name), m.do(call, name); got != want {
				t.Fatalf("row %d: call %d of %q: %d, not %d", row, call, name, got, want)
			}
		}
		same(t, fmt.Sprint("List of row ", row), l.List(), m.list())
		for _, name := range names {
			if l.Has(name) != slices.Contains(m, name) {
				t.Fatalf("row %d: Has(%q): %v", row, name, l.Has(name))
			}
		}
	}
}

// TestLocksByChance: long rows of calls on many names, with several locks that have nothing to do with each other.
func TestLocksByChance(t *testing.T) {
	names := append(edgeNames(), noNames()...)
	for seed := range 40 {
		chance := rand.New(rand.NewSource(int64(seed)))
		locks, models := []*snaps.Locks{snaps.New(), snaps.New(), snaps.New()}, make([]lockModel, 3)
		for range 2000 {
			i, call, name := chance.Intn(3), chance.Intn(3), names[chance.Intn(len(names))]
			if got, want := ask(locks[i], call, name), models[i].do(call, name); got != want {
				t.Fatalf("call %d of %.20q: %d, not %d", call, name, got, want)
			}
			if chance.Intn(10) == 0 {
				same(t, "List", locks[i].List(), models[i].list())
			}
		}
		for i := range locks {
			same(t, "List", locks[i].List(), models[i].list())
		}
	}
}

// TestLockNames: what is no name is refused by Lock and Unlock, and never locked; each name may be locked.
func TestLockNames(t *testing.T) {
	l := snaps.New()
	for _, name := range noNames() {
		if l.Lock(name) != api.ErrSnapName || l.Unlock(name) != api.ErrSnapName || l.Has(name) || len(l.List()) != 0 {
			t.Errorf("%.20q", name)
		}
	}
	for i, name := range edgeNames() {
		if l.Has(name) || l.Unlock(name) != api.ErrSnapNone || l.Lock(name) != api.OK || !l.Has(name) {
			t.Errorf("%q", name)
		}
		same(t, "List", l.List(), edgeNames()[:i+1])
	}
	for i, name := range edgeNames() {
		if l.Unlock(name) != api.OK || l.Has(name) || l.Unlock(name) != api.ErrSnapNone {
			t.Errorf("%q", name)
		}
		same(t, "List", l.List(), edgeNames()[i+1:])
	}
}

// TestLockedOften: what is locked many times is locked till it is unlocked as often.
func TestLockedOften(t *testing.T) {
	for _, many := range []int{1, 2, 3, 255, 256, 257, 65536, 70000} {
		l := locked(t, "b", "b")
		for range many {
			fine(t, l.Lock("a"))
		}
		for i := range many {
			if !l.Has("a") {
				t.Fatalf("locked %d times, unlocked %d times", many, i)
			}
			fine(t, l.Unlock("a"))
		}
		if l.Has("a") || l.Unlock("a") != api.ErrSnapNone || !l.Has("b") {
			t.Fatalf("locked and unlocked %d times", many)
		}
		same(t, "List", l.List(), []string{"b"})
	}
}

// TestManyLocks: as many names as there may be, in no order.
func TestManyLocks(t *testing.T) {
	l := snaps.New()
	var want []string
	for i := range 20000 {
		name := fmt.Sprintf("%x.%d", i*7919%20000, i%3)
		want = append(want, name)
		fine(t, l.Lock(name))
	}
	slices.Sort(want)
	same(t, "how many", len(l.List()), len(want))
	if !slices.Equal(l.List(), want) {
		t.Error("not the names, rising")
	}
}

// FuzzLocks: rows of calls, a byte each.
func FuzzLocks(f *testing.F) {
	f.Add([]byte("\x00\x00\x01\x01\x01"))
	f.Add([]byte("lock, lock, unlock, and see"))
	f.Fuzz(func(t *testing.T, row []byte) {
		names := append(edgeNames(), noNames()...)
		l, m := snaps.New(), lockModel{}
		for _, b := range row {
			call, name := int(b)%3, names[int(b)/3%len(names)]
			if got, want := ask(l, call, name), m.do(call, name); got != want {
				t.Fatalf("call %d of %.20q: %d, not %d", call, name, got, want)
			}
		}
		same(t, "List", l.List(), m.list())
	})
}
