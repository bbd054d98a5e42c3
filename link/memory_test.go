package link_test

import (
	"fmt"
	"math/rand"
	"runtime"
	"strings"
	"testing"
	"unsafe"

	"stillage/api"
	"stillage/link"
)

// lent is a text whose bytes its owner changes by the answered call.
func lent(s string) (string, func()) {
	b := []byte(s)
	return unsafe.String(unsafe.SliceData(b), len(b)), func() {
		for i := range b {
			b[i] = '!'
		}
	}
}

// spoil changes the bytes of a text that was answered, which is the caller's own.
func spoil(s string) {
	for i := range unsafe.Slice(unsafe.StringData(s), len(s)) {
		unsafe.Slice(unsafe.StringData(s), len(s))[i] = '?'
	}
}

// TestMemoryOfMessages (R4): nothing of a message's memory is kept, nor is any shared by two answers.
func TestMemoryOfMessages(t *testing.T) {
	fates := []api.Fate{{}, {Kind: drops}, {Kind: twice}, {Kind: lates, N: 1}, {Kind: lates, N: 3}, {Kind: turns, N: 1, Mask: 1}, {Kind: turns}, {Kind: lates}, {Kind: 7}}
	for _, room := range []int{1, 2, 3, 50} {
		for _, f := range fates {
			p := newPair(t, room)
			for i := range 3 {
				s, change := lent(number(i))
				if e, want := p.l.Send(s, f), p.m.send(strings.Clone(s), f); e != want {
					t.Fatalf("%d: %d, not %d", f, e, want)
				}
				if s != number(i) {
					t.Fatalf("%d: the message became %q", f, s)
				}
				change()
			}
			for range 4 {
				for {
					// The model's answer is another text, so that it may be held against one that is spoilt behind it.
					s, ok := p.take(t)
					if !ok {
						break
					}
					spoil(s)
				}
				p.step(t)
			}
			p.ends(t)
		}
	}
}

// TestLinksApart (R5): each goes its own way.
func TestLinksApart(t *testing.T) {
	chance := rand.New(rand.NewSource(18))
	links := []*pair{newPair(t, 2), newPair(t, 2), newPair(t, 7), newPair(t, 64)}
	for n := range 20000 {
		links[chance.Intn(len(links))].does(t, chance, n)
	}
	for _, p := range links {
		p.ends(t)
	}
}

// TestAnswersAgain (R5): the same calls are answered the same, whoever asks, and what is refused or only asked between.
func TestAnswersAgain(t *testing.T) {
	for who := range 4 {
		t.Run(fmt.Sprint(who), func(t *testing.T) {
			t.Parallel()
			chance := rand.New(rand.NewSource(1))
			p := newPair(t, 5)
			for n := range 5000 {
				p.does(t, chance, n)
				for range who {
					p.l.Send("none", api.Fate{Kind: api.Fates})
					p.l.Waits()
				}
			}
			p.ends(t)
		})
	}
}

// taken is how much memory there is in use.
func taken() uint64 {
	var m runtime.MemStats
	runtime.GC()
	runtime.ReadMemStats(&m)
	return m.HeapAlloc
}

// TestKeepsLittle: not what was taken, was lost, may not be, or is none any more, nor the texts of which messages are a part.
func TestKeepsLittle(t *testing.T) {
	long := func(i int) string { return strings.Repeat(string(rune('a'+i%26)), 1<<20) }
	for name, use := range map[string]func(l *link.Link){
		"what was taken": func(l *link.Link) {
			for i := range 40 {
				l.Send(long(i), api.Fate{Kind: []int{goes, twice, turns}[i%3]})
			}
			for range 60 {
				l.Take()
			}
			// Others come into the places of some of them alone.
			l.Send("a", api.Fate{})
		},
		"what was taken from among others": func(l *link.Link) {
			for i := range 10 {
				l.Send(long(i), api.Fate{})
			}
			l.Send("a", api.Fate{})
			for range 10 {
				l.Take()
			}
		},
		"what was late": func(l *link.Link) {
			for i := range 40 {
				l.Send(long(i), api.Fate{Kind: lates, N: 1 + i%latest})
			}
			l.Send("a", api.Fate{Kind: lates, N: latest})
			for range latest {
				l.Step()
				for range 7 {
					l.Take()
				}
			}
		},
		"what found no place": func(l *link.Link) {
			for range 64 {
				l.Send("", api.Fate{})
			}
			for i := range 50 {
				l.Send(long(i), api.Fate{Kind: i % 5, N: 1})
			}
			l.Step()
		},
		"what was dropped, or refused": func(l *link.Link) {
			for i := range 40 {
				l.Send(long(i), api.Fate{Kind: drops})
				l.Send(long(i), api.Fate{Kind: api.Fates})
				l.Send(long(i), api.Fate{Kind: lates})
			}
		},
		"what was cut": func(l *link.Link) {
			for i := range 40 {
				l.Send(long(i), api.Fate{Kind: i % 5, N: 1})
			}
			l.Cut()
			l.Send("a", api.Fate{})
			l.Send("b", api.Fate{Kind: lates, N: 1})
		},
		"of what a part waits": func(l *link.Link) {
			for i := range 40 {
				l.Send(long(i)[:2], api.Fate{Kind: i % 5, N: latest})
			}
		},
		"how many were late": func(l *link.Link) {
			for range 300000 {
				l.Send("", api.Fate{Kind: lates, N: 1})
			}
			l.Step()
		},
	} {
		ahead := taken()
		l := made(t, 64)
		use(l)
		if now := taken(); now > ahead+1<<19 {
			t.Errorf("%s: %d bytes more", name, now-ahead)
		}
		runtime.KeepAlive(l)
	}
}

// TestSmall: a link on which nothing is has little memory, whatever its room.
func TestSmall(t *testing.T) {
	ahead := taken()
	var links []*link.Link
	for range 1000 {
		links = append(links, made(t, most))
	}
	if now := taken(); now > ahead+1<<20 {
		t.Errorf("%d bytes more", now-ahead)
	}
	runtime.KeepAlive(links)
}
