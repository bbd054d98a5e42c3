package link_test

import (
	"fmt"
	"math/rand"
	"slices"
	"testing"

	"stillage/api"
	"stillage/link"
)

const (
	most     = 4096 // places of the greatest link
	latest   = 8    // steps
	cutShort = 40   // bytes of a message that are shown
)

// Kinds of fates, as the document names them.
const (
	goes = iota
	drops
	twice
	lates
	turns
)

// model is a link by the words of the document: what is late stands by the step in which it comes.
type model struct {
	room  int
	waits []string
	now   int
	late  map[int][]string
}

// comes lets a message come.
func (m *model) comes(s string) {
	if len(m.waits) != m.room {
		m.waits = append(m.waits, s)
	}
}

func (m *model) send(s string, f api.Fate) api.Errno {
	switch {
	case f.Kind < 0 || f.Kind > 4, f.Kind == lates && (f.N < 1 || f.N > latest), f.Kind == turns && f.N < 0:
		return api.ErrLinkFate
	case f.Kind == goes:
		m.comes(s)
	case f.Kind == twice:
		m.comes(s)
		m.comes(s)
	case f.Kind == lates:
		m.late[m.now+f.N] = append(m.late[m.now+f.N], s)
	case f.Kind == turns && s == "":
		m.comes("")
	case f.Kind == turns:
		at := f.N % len(s)
		m.comes(s[:at] + string([]byte{s[at] ^ f.Mask}) + s[at+1:])
	}
	return api.OK
}

func (m *model) step() {
	m.now++
	for _, s := range m.late[m.now] {
		m.comes(s)
	}
	delete(m.late, m.now)
}

func (m *model) take() (string, bool) {
	if len(m.waits) == 0 {
		return "", false
	}
	s := m.waits[0]
	m.waits = slices.Clone(m.waits[1:])
	return s, true
}

func (m *model) count() (int, int) {
	late := 0
	for _, l := range m.late {
		late += len(l)
	}
	return len(m.waits), late
}

func (m *model) cut() { m.waits, m.late = nil, map[int][]string{} }

// call is one on a link; a message and its fate are those of Send.
type call struct {
	name string
	s    string
	f    api.Fate
}

func (c call) String() string {
	if c.name != "Send" {
		return c.name
	}
	return fmt.Sprintf("Send(%s, %d)", short(c.s), c.f)
}

// pair is a link, and what it must be.
type pair struct {
	l    *link.Link
	m    *model
	past []call
}

// made is a link with as much room as may be asked for.
func made(t testing.TB, room int) *link.Link {
	t.Helper()
	l, e := link.New(room)
	if l == nil || e != api.OK {
		t.Fatalf("New(%d): %d", room, e)
	}
	return l
}

func newPair(t testing.TB, room int) *pair {
	t.Helper()
	return &pair{l: made(t, room), m: &model{room: room, late: map[int][]string{}}}
}

// short is a message as it is shown.
func short(s string) string {
	if len(s) > cutShort {
		return fmt.Sprintf("%q.. (%d bytes)", s[:cutShort], len(s))
	}
	return fmt.Sprintf("%q", s)
}

// did notes a call, and holds how many wait and are late behind it.
func (p *pair) did(t testing.TB, c call) {
	p.past = append(p.past, c)
	p.counts(t)
}

// told are the last calls.
func (p *pair) told() string {
	return fmt.Sprintf("room %d, .. %v", p.m.room, p.past[max(0, len(p.past)-20):])
}

// counts holds how many wait and are late.
func (p *pair) counts(t testing.TB) {
	waits, late := p.l.Waits()
	wantWaits, wantLate := p.m.count()
	if waits != wantWaits || late != wantLate {
		t.Fatalf("%s: Waits %d, %d, not %d, %d", p.told(), waits, late, wantWaits, wantLate)
	}
}

func (p *pair) send(t testing.TB, s string, f api.Fate) api.Errno {
	want := p.m.send(s, f)
	e := p.l.Send(s, f)
	p.did(t, call{"Send", s, f})
	if e != want {
		t.Fatalf("%s: %d, not %d", p.told(), e, want)
	}
	return e
}

func (p *pair) step(t testing.TB) {
	p.m.step()
	p.l.Step()
	p.did(t, call{name: "Step"})
}

func (p *pair) take(t testing.TB) (string, bool) {
	want, ok := p.m.take()
	s, is := p.l.Take()
	p.did(t, call{name: "Take"})
	if s != want || is != ok {
		t.Fatalf("%s: %s, %t, not %s, %t", p.told(), short(s), is, short(want), ok)
	}
	return s, is
}

func (p *pair) cut(t testing.TB) {
	p.m.cut()
	p.l.Cut()
	p.did(t, call{name: "Cut"})
}

// takes are all that wait; it has none then.
func (p *pair) takes(t testing.TB) (l []string) {
	for {
		s, ok := p.take(t)
		if !ok {
			return l
		}
		l = append(l, s)
	}
}

// ends holds all that waits and is late: nothing is on it then.
func (p *pair) ends(t testing.TB) {
	p.takes(t)
	for range latest + 1 {
		p.step(t)
		p.takes(t)
	}
	if waits, late := p.l.Waits(); waits != 0 || late != 0 {
		t.Fatalf("%s: Waits %d, %d", p.told(), waits, late)
	}
}

// same holds lists of messages against each other.
func same(t testing.TB, name string, got, want []string) {
	t.Helper()
	if !slices.Equal(got, want) {
		t.Errorf("%s: %.200q, not %.200q", name, got, want)
	}
}

// number is the n-th message, unlike all other ones.
func number(n int) string { return fmt.Sprintf("message %d.", n) }

// all are bytes in which each byte comes.
func all(n int) string {
	b := make([]byte, n)
	for i := range b {
		b[i] = byte(i*7 + i/256)
	}
	return string(b)
}

// noFates are fates that may not be.
func noFates() (l []api.Fate) {
	for _, kind := range []int{-1 << 63, -1 << 32, -256, -5, -2, -1, 5, 6, 7, 8, 255, 256, 1 << 16, 1 << 32, 1<<32 + 1, 1<<63 - 1} {
		for _, n := range []int{-1, 0, 1, latest} {
			l = append(l, api.Fate{Kind: kind, N: n, Mask: 1})
		}
	}
	for _, n := range []int{-1 << 63, -1<<63 + 1, -1 << 32, -1<<32 + 1, -8, -2, -1, 0, latest + 1, latest + 2, 16, 255, 256, 257, 1 << 16, 1 << 32, 1<<32 + 1, 1<<63 - 1} {
		l = append(l, api.Fate{Kind: lates, N: n}, api.Fate{Kind: lates, N: n, Mask: 255})
		if n < 0 {
			l = append(l, api.Fate{Kind: turns, N: n}, api.Fate{Kind: turns, N: n, Mask: 1})
		}
	}
	return l
}

// byChance is a fate, mostly one that may be.
func byChance(chance *rand.Rand) api.Fate {
	f := api.Fate{Kind: chance.Intn(5), N: chance.Intn(2*latest) - 2, Mask: byte(chance.Intn(256))}
	switch {
	case chance.Intn(40) == 0:
		f = noFates()[chance.Intn(len(noFates()))]
	case f.Kind == lates && chance.Intn(20) != 0:
		f.N = 1 + chance.Intn(latest)
	}
	return f
}

// does does some call by chance, the n-th one.
func (p *pair) does(t testing.TB, chance *rand.Rand, n int) {
	switch x := chance.Intn(100); {
	case x < 45:
		s := number(n)
		p.send(t, s[:max(0, len(s)-chance.Intn(20))], byChance(chance))
	case x < 60:
		p.step(t)
	case x < 99:
		p.take(t)
	default:
		p.cut(t)
	}
}
