package link_test

import (
	"fmt"
	"math"
	"math/rand"
	"strconv"
	"strings"
	"testing"

	"stillage/api"
	"stillage/link"
)

// P18.1

// TestNew: nothing is on it.
func TestNew(t *testing.T) {
	for _, room := range []int{1, 2, 3, 63, 64, 65, 255, 256, 4095, most} {
		p := newPair(t, room)
		p.counts(t)
		p.ends(t)
	}
}

func TestNewNoRoom(t *testing.T) {
	for _, room := range []int{0, -1, -2, -64, -most, math.MinInt, most + 1, most + 2, 2 * most, 65536, 1 << 32, 1<<32 + 1, math.MaxInt} {
		if l, e := link.New(room); l != nil || e != api.ErrPipeRoom {
			t.Errorf("New(%d): %v, %d", room, l, e)
		}
	}
}

// TestRoom: as many wait as there are places, in order; what comes then is lost, and each that was taken leaves its place.
func TestRoom(t *testing.T) {
	for _, room := range []int{1, 2, 3, 4, 7, 8, 9, 64, 1000, 4095, most} {
		l := made(t, room)
		for i := range room {
			if e := l.Send(number(i), api.Fate{}); e != api.OK {
				t.Fatalf("room %d, number %d: %d", room, i, e)
			}
			if waits, late := l.Waits(); waits != i+1 || late != 0 {
				t.Fatalf("room %d, number %d: Waits %d, %d", room, i, waits, late)
			}
		}
		for i := range 2*room + 3 {
			for range 2 {
				if e := l.Send("lost", api.Fate{}); e != api.OK {
					t.Fatalf("room %d: %d", room, e)
				}
			}
			if waits, late := l.Waits(); waits != room || late != 0 {
				t.Fatalf("room %d: Waits %d, %d", room, waits, late)
			}
			if s, ok := l.Take(); s != number(i) || !ok {
				t.Fatalf("room %d: %q, %t, not number %d", room, s, ok, i)
			}
			if waits, late := l.Waits(); waits != room-1 || late != 0 {
				t.Fatalf("room %d: Waits %d, %d", room, waits, late)
			}
			l.Send(number(room+i), api.Fate{})
		}
	}
}

// TestRoomOfEachFate: whatever way a message comes, it is lost if there is no place, and comes if there is one.
func TestRoomOfEachFate(t *testing.T) {
	for room := 1; room <= 5; room++ {
		for have := range room + 1 {
			for kind := range 5 {
				p := newPair(t, room)
				for i := range have {
					p.send(t, number(i), api.Fate{})
				}
				p.send(t, "new", api.Fate{Kind: kind, N: 1, Mask: 1})
				p.send(t, "", api.Fate{Kind: kind, N: 2, Mask: 1})
				p.step(t)
				p.send(t, "newer", api.Fate{Kind: kind, N: 1, Mask: 1})
				p.step(t)
				p.take(t)
				p.send(t, "last", api.Fate{Kind: kind, N: 1, Mask: 1})
				p.ends(t)
			}
		}
	}
}

// P18.2

// TestNoFate: what may not be is refused, and changes nothing.
func TestNoFate(t *testing.T) {
	for _, f := range noFates() {
		for _, s := range []string{"", "x", "a message"} {
			p := newPair(t, 4)
			p.send(t, "a", api.Fate{})
			p.send(t, "b", api.Fate{Kind: lates, N: 1})
			p.send(t, "c", api.Fate{Kind: lates, N: 2})
			if e := p.send(t, s, f); e != api.ErrLinkFate {
				t.Errorf("Send(%q, %d): %d", s, f, e)
			}
			same(t, "ahead of a step", p.takes(t), []string{"a"})
			p.step(t)
			same(t, "a step later", p.takes(t), []string{"b"})
			p.send(t, s, f)
			p.step(t)
			same(t, "two steps later", p.takes(t), []string{"c"})
			p.ends(t)
		}
	}
	// Also if no place is left.
	p := newPair(t, 1)
	p.send(t, "a", api.Fate{})
	for _, f := range noFates() {
		if e := p.send(t, "b", f); e != api.ErrLinkFate {
			t.Errorf("Send(%d): %d", f, e)
		}
	}
	p.ends(t)
}

// numbers are those about the limits of what a fate's number may be.
func numbers() []int {
	return []int{
		math.MinInt, -1 << 32, -256, -9, -8, -2, -1, 0, 1, 2, 7, 8, 9, 10, 127, 128, 255, 256, 257, 1<<31 - 1, 1 << 31, 1 << 32, 1<<32 + 1, math.MaxInt - 1, math.MaxInt,
	}
}

// TestFates: each kind with each number and some masks; a number and a mask that a kind doesn't ask for are nothing to it.
func TestFates(t *testing.T) {
	for _, kind := range numbers() {
		for _, n := range numbers() {
			for _, mask := range []byte{0, 1, 128, 255} {
				for _, s := range []string{"", "a", "ab", "abc", all(256)} {
					p := newPair(t, 8)
					p.send(t, "ahead", api.Fate{})
					p.send(t, s, api.Fate{Kind: kind, N: n, Mask: mask})
					p.send(t, "behind", api.Fate{})
					p.ends(t)
				}
			}
		}
	}
}

// TestEachFate: each by itself, told by hand.
func TestEachFate(t *testing.T) {
	for _, x := range []struct {
		f    api.Fate
		now  []string
		late int
	}{
		{api.Fate{Kind: api.FateGo}, []string{"ab"}, 0},
		{api.Fate{Kind: api.FateGo, N: -5, Mask: 7}, []string{"ab"}, 0},
		{api.Fate{Kind: api.FateGo, N: 9, Mask: 255}, []string{"ab"}, 0},
		{api.Fate{Kind: api.FateDrop}, nil, 0},
		{api.Fate{Kind: api.FateDrop, N: -9, Mask: 255}, nil, 0},
		{api.Fate{Kind: api.FateDrop, N: 1}, nil, 0},
		{api.Fate{Kind: api.FateTwice}, []string{"ab", "ab"}, 0},
		{api.Fate{Kind: api.FateTwice, N: -1, Mask: 1}, []string{"ab", "ab"}, 0},
		{api.Fate{Kind: api.FateTwice, N: 3, Mask: 1}, []string{"ab", "ab"}, 0},
		{api.Fate{Kind: api.FateLate, N: 1}, nil, 1},
		{api.Fate{Kind: api.FateLate, N: 8, Mask: 255}, nil, 1},
		{api.Fate{Kind: api.FateTurn}, []string{"ab"}, 0},
		{api.Fate{Kind: api.FateTurn, Mask: 1}, []string{"\x60b"}, 0},
		{api.Fate{Kind: api.FateTurn, N: 1, Mask: 1}, []string{"ac"}, 0},
		{api.Fate{Kind: api.FateTurn, N: 2, Mask: 3}, []string{"bb"}, 0},
		{api.Fate{Kind: api.FateTurn, N: 3, Mask: 255}, []string{"a\x9d"}, 0},
	} {
		l := made(t, 4)
		if e := l.Send("ab", x.f); e != api.OK {
			t.Errorf("%d: %d", x.f, e)
		}
		if waits, late := l.Waits(); waits != len(x.now) || late != x.late {
			t.Errorf("%d: Waits %d, %d", x.f, waits, late)
		}
		for _, want := range x.now {
			if s, ok := l.Take(); s != want || !ok {
				t.Errorf("%d: %q, %t, not %q", x.f, s, ok, want)
			}
		}
		if s, ok := l.Take(); s != "" || ok {
			t.Errorf("%d: %q, %t", x.f, s, ok)
		}
	}
}

// TestTurned: each byte of each length by each bit, the place counted round and round.
func TestTurned(t *testing.T) {
	for size := range 20 {
		for at := range 3*size + 3 {
			for bit := range 8 {
				p := newPair(t, 1)
				p.send(t, all(size), api.Fate{Kind: turns, N: at, Mask: 1 << bit})
				p.ends(t)
			}
		}
	}
	for mask := range 256 {
		for b := range 256 {
			l := made(t, 1)
			l.Send("<"+string([]byte{byte(b)})+">", api.Fate{Kind: turns, N: 4, Mask: byte(mask)})
			if s, ok := l.Take(); s != "<"+string([]byte{byte(b) ^ byte(mask)})+">" || !ok {
				t.Fatalf("%d by %d: %q, %t", b, mask, s, ok)
			}
		}
	}
	for _, size := range []int{1, 255, 256, 257, 2000, 65536, 65537, 100003} {
		for _, n := range []int{0, 1, 254, 255, 256, 257, 65535, 65536, 100002, 100003, 1 << 31, 1 << 32, math.MaxInt - 1, math.MaxInt} {
			p := newPair(t, 2)
			p.send(t, all(size), api.Fate{Kind: turns, N: n, Mask: 16})
			p.ends(t)
		}
	}
}

// TestTwice: both copies come one behind the other; if there is one place, one of them.
func TestTwice(t *testing.T) {
	p := newPair(t, 3)
	p.send(t, "x", api.Fate{Kind: api.FateTwice})
	p.send(t, "y", api.Fate{Kind: api.FateTwice})
	p.send(t, "z", api.Fate{Kind: api.FateTwice})
	same(t, "what waits", p.takes(t), []string{"x", "x", "y"})
	p.send(t, "", api.Fate{Kind: api.FateTwice})
	same(t, "what waits", p.takes(t), []string{"", ""})
	p = newPair(t, 1)
	p.send(t, "x", api.Fate{Kind: api.FateTwice})
	same(t, "what waits", p.takes(t), []string{"x"})
	p.ends(t)
}

// P18.3

// TestLate: by so many steps, not one more or less; till then it is late, and takes nobody's place.
func TestLate(t *testing.T) {
	for n := 1; n <= latest; n++ {
		for have := range 3 {
			p := newPair(t, 2)
			for i := range have {
				p.send(t, number(i), api.Fate{})
			}
			p.send(t, "late", api.Fate{Kind: lates, N: n})
			for i := range n {
				if waits, late := p.l.Waits(); waits != have || late != 1 {
					t.Fatalf("%d steps, %d passed: Waits %d, %d", n, i, waits, late)
				}
				p.step(t)
			}
			// A late message that comes to a link without room is lost.
			if waits, late := p.l.Waits(); waits != min(2, have+1) || late != 0 {
				t.Fatalf("%d steps: Waits %d, %d", n, waits, late)
			}
			p.ends(t)
		}
	}
}

// TestLateInOrder: those that come in one step come in the order in which they were sent, whenever that was, behind those that wait.
func TestLateInOrder(t *testing.T) {
	p := newPair(t, 100)
	for n := latest; n >= 1; n-- {
		p.send(t, number(n), api.Fate{Kind: lates, N: n})
		p.send(t, "again "+number(n), api.Fate{Kind: lates, N: n})
		p.step(t)
		p.send(t, "at once", api.Fate{})
	}
	p.ends(t)

	// All come in one step.
	p = newPair(t, 100)
	var want []string
	for n := latest; n >= 1; n-- {
		p.send(t, number(n), api.Fate{Kind: lates, N: n})
		p.send(t, "again", api.Fate{Kind: lates, N: n})
		want = append(want, number(n), "again")
		same(t, "ahead of the step", p.takes(t), nil)
		p.step(t)
	}
	same(t, "behind the step", p.takes(t), want)

	// Each comes in a step of its own, the one that was sent last first.
	p = newPair(t, 100)
	for n := latest; n >= 1; n-- {
		p.send(t, number(n), api.Fate{Kind: lates, N: n})
	}
	for n := range latest {
		p.step(t)
		same(t, "behind a step", p.takes(t), []string{number(n + 1)})
	}
}

// TestLateOrders: all rows of four late messages, each by 1 to 4 steps, with or without a step ahead of it.
func TestLateOrders(t *testing.T) {
	for _, room := range []int{1, 2, 10} {
		for row := range 8 * 8 * 8 * 8 {
			p := newPair(t, room)
			for i, rest := 0, row; i < 4; i, rest = i+1, rest/8 {
				if rest%2 == 1 {
					p.step(t)
				}
				p.send(t, number(i), api.Fate{Kind: lates, N: 1 + rest/2%4})
			}
			p.ends(t)
		}
	}
}

// TestManyLate: more are late than ever wait; those that come first have the places.
func TestManyLate(t *testing.T) {
	for _, room := range []int{1, 64, most} {
		l := made(t, room)
		const many = 3 * most
		for i := range many {
			if e := l.Send(number(i), api.Fate{Kind: lates, N: 1 + i%2}); e != api.OK {
				t.Fatal(e)
			}
		}
		if waits, late := l.Waits(); waits != 0 || late != many {
			t.Fatalf("room %d: Waits %d, %d", room, waits, late)
		}
		for step := range 2 {
			l.Step()
			if waits, late := l.Waits(); waits != room || late != many/2*(1-step) {
				t.Fatalf("room %d: Waits %d, %d", room, waits, late)
			}
			for i := range room {
				if s, ok := l.Take(); s != number(2*i+step) || !ok {
					t.Fatalf("room %d, number %d of step %d: %q, %t", room, i, step, s, ok)
				}
			}
			if s, ok := l.Take(); s != "" || ok {
				t.Fatalf("room %d: %q, %t", room, s, ok)
			}
		}
	}
}

// TestStepsOfNothing: a step changes nothing of what waits, and however many pass.
func TestStepsOfNothing(t *testing.T) {
	p := newPair(t, 3)
	for range 1000 {
		p.step(t)
	}
	p.send(t, "a", api.Fate{})
	p.send(t, "b", api.Fate{Kind: twice})
	for range 1000 {
		p.step(t)
	}
	p.send(t, "c", api.Fate{Kind: lates, N: latest})
	same(t, "what waits", p.takes(t), []string{"a", "b", "b"})
	p.ends(t)
}

// TestTakeOfEmptyTexts: an empty text that waits is one all the same.
func TestTakeOfEmptyTexts(t *testing.T) {
	p := newPair(t, 9)
	for kind := range 5 {
		p.send(t, "", api.Fate{Kind: kind, N: 1, Mask: 255})
	}
	same(t, "what waits", p.takes(t), []string{"", "", "", ""})
	p.step(t)
	same(t, "what was late", p.takes(t), []string{""})
	for range 3 {
		if s, ok := p.take(t); s != "" || ok {
			t.Errorf("%q, %t", s, ok)
		}
	}
}

// TestCut: none of both any more, and none comes later; the link has all its places, and goes on.
func TestCut(t *testing.T) {
	for _, room := range []int{1, 2, 5} {
		for passed := range latest + 1 {
			p := newPair(t, room)
			for n := range latest {
				p.send(t, number(n), api.Fate{Kind: lates, N: n + 1})
				p.send(t, "now", api.Fate{})
			}
			for range passed {
				p.step(t)
			}
			p.cut(t)
			if waits, late := p.l.Waits(); waits != 0 || late != 0 {
				t.Fatalf("Waits %d, %d", waits, late)
			}
			if s, ok := p.take(t); s != "" || ok {
				t.Fatalf("%q, %t", s, ok)
			}
			for range latest {
				p.step(t)
				same(t, "behind a cut", p.takes(t), nil)
			}
			for n := range room + 2 {
				p.send(t, number(n), api.Fate{})
				p.send(t, number(n), api.Fate{Kind: lates, N: 1 + n})
			}
			p.ends(t)
			p.cut(t)
			p.cut(t)
			p.ends(t)
		}
	}
}

// P18.4

// TestInOrder: by FateGo alone messages are taken in the order in which they were sent, each once; steps are nothing to them.
func TestInOrder(t *testing.T) {
	for seed := range 50 {
		chance := rand.New(rand.NewSource(int64(seed)))
		room := 1 + chance.Intn(30)
		l := made(t, room)
		sent, taken := 0, 0
		for range 2000 {
			switch chance.Intn(5) {
			case 0, 1:
				if sent-taken == room {
					break
				}
				if e := l.Send(number(sent), api.Fate{N: chance.Intn(20) - 9, Mask: byte(chance.Intn(256))}); e != api.OK {
					t.Fatal(e)
				}
				sent++
			case 2:
				l.Step()
			default:
				want := ""
				if taken < sent {
					want = number(taken)
				}
				if s, ok := l.Take(); s != want || ok != (taken < sent) {
					t.Fatalf("%q, %t, not number %d of %d", s, ok, taken, sent)
				}
				taken = min(taken+1, sent)
			}
			if waits, late := l.Waits(); waits != sent-taken || late != 0 {
				t.Fatalf("Waits %d, %d, of %d less %d", waits, late, sent, taken)
			}
		}
	}
}

// marked is the n-th message, which is told from all others also with one byte turned.
func marked(n int) string { return strings.Repeat(fmt.Sprintf("%04d", n), 3) }

// isOf is the message that was marked, and how many of its bytes are others.
func isOf(s string) (n, others int) {
	if len(s) != 12 {
		return -1, len(s)
	}
	mark := s[:4]
	if mark != s[4:8] {
		mark = s[8:]
	}
	n, e := strconv.Atoi(mark)
	if e != nil {
		return -1, len(s)
	}
	for i := range s {
		if s[i] != marked(n)[i] {
			others++
		}
	}
	return n, others
}

// TestWasSent: what is taken was sent, or is one that was, with one byte turned; each as often as its fate says, at most.
func TestWasSent(t *testing.T) {
	for seed := range 200 {
		chance := rand.New(rand.NewSource(int64(seed)))
		l := made(t, 1+chance.Intn(20))
		left, turned := map[int]int{}, map[int]int{} // how often a message may still be taken, how many of its bytes are turned
		for n := range 1000 {
			f := byChance(chance)
			if e := l.Send(marked(n), f); e == api.OK {
				left[n] = []int{1, 0, 2, 1, 1}[f.Kind]
				if f.Kind == turns && f.Mask != 0 {
					turned[n] = 1
				}
			}
			if chance.Intn(3) == 0 {
				l.Step()
			}
			for chance.Intn(3) != 0 {
				s, ok := l.Take()
				if !ok {
					break
				}
				is, others := isOf(s)
				if left[is] == 0 || others != turned[is] {
					t.Fatalf("%q: number %d with %d bytes turned, which was sent so that it comes %d times more", s, is, others, left[is])
				}
				left[is]--
			}
		}
	}
}

// All together

// TestAllRows: each row of six calls, on links of one to three places.
func TestAllRows(t *testing.T) {
	calls := []func(p *pair, n int){
		func(p *pair, n int) { p.send(t, number(n), api.Fate{}) },
		func(p *pair, n int) { p.send(t, number(n), api.Fate{Kind: twice}) },
		func(p *pair, n int) { p.send(t, number(n), api.Fate{Kind: lates, N: 1}) },
		func(p *pair, n int) { p.send(t, number(n), api.Fate{Kind: lates, N: 2}) },
		func(p *pair, n int) { p.step(t) },
		func(p *pair, n int) { p.take(t) },
		func(p *pair, n int) { p.cut(t) },
	}
	for row := range 7 * 7 * 7 * 7 * 7 * 7 {
		for room := 1; room <= 3; room++ {
			p := newPair(t, room)
			for n, rest := 0, row; n < 6; n, rest = n+1, rest/7 {
				calls[rest%7](p, n)
			}
			p.takes(t)
			p.step(t)
			p.takes(t)
			p.step(t)
			p.takes(t)
		}
	}
}

// TestLongRows: long rows of calls, of all fates, on links of all sizes.
func TestLongRows(t *testing.T) {
	for seed := range 200 {
		chance := rand.New(rand.NewSource(int64(seed)))
		p := newPair(t, 1+chance.Intn(1+seed))
		for n := range 1000 {
			p.does(t, chance, n)
		}
		p.ends(t)
	}
}

// FuzzCalls makes whatever calls bytes say.
func FuzzCalls(f *testing.F) {
	f.Add(uint8(1), []byte("\x00\x00\x01\x07\x03\x04\x05\x06"))
	f.Add(uint8(3), []byte("send, step, take, and cut"))
	f.Fuzz(func(t *testing.T, room uint8, row []byte) {
		p := newPair(t, 1+int(room)%20)
		for n, b := range row[:min(len(row), 300)] {
			p.does(t, rand.New(rand.NewSource(int64(b)*7+int64(n%5))), n)
		}
		p.ends(t)
	})
}

// FuzzSend: any message with any fate.
func FuzzSend(f *testing.F) {
	f.Add("ab", turns, 3, byte(1))
	f.Add("", turns, 0, byte(255))
	f.Add("late", lates, 8, byte(0))
	f.Add("none", 5, -1, byte(7))
	f.Fuzz(func(t *testing.T, s string, kind, n int, mask byte) {
		p := newPair(t, 5)
		p.send(t, s, api.Fate{Kind: kind, N: n, Mask: mask})
		p.send(t, s, api.Fate{Kind: kind & 7, N: n & 15, Mask: mask})
		p.send(t, s, api.Fate{Kind: turns, N: n & math.MaxInt, Mask: mask})
		p.ends(t)
	})
}

// TestExamples: those of the document.
func TestExamples(t *testing.T) {
	l := made(t, 8)
	l.Send("a", api.Fate{Kind: api.FateLate, N: 1})
	l.Send("b", api.Fate{Kind: api.FateGo})
	if s, ok := l.Take(); s != "b" || !ok {
		t.Errorf("%q, %t", s, ok)
	}
	if s, ok := l.Take(); s != "" || ok {
		t.Errorf("%q, %t", s, ok)
	}
	l.Step()
	if s, ok := l.Take(); s != "a" || !ok {
		t.Errorf("%q, %t", s, ok)
	}
	l.Send("ab", api.Fate{Kind: api.FateTurn, N: 3, Mask: 1})
	if s, ok := l.Take(); s != "ac" || !ok {
		t.Errorf("%q, %t", s, ok)
	}
}

// TestEnds (R1): messages of any length, as many as may be.
func TestEnds(t *testing.T) {
	long := strings.Repeat(all(4099), 1000)
	p := newPair(t, 10)
	for kind := range 5 {
		p.send(t, long, api.Fate{Kind: kind, N: latest, Mask: 3})
	}
	p.ends(t)
	l := made(t, most)
	for i := range 200000 {
		l.Send("", api.Fate{Kind: i % 5, N: 1 + i%latest})
		if i%1000 == 0 {
			l.Step()
		}
	}
	if waits, late := l.Waits(); waits != most || late == 0 {
		t.Errorf("Waits %d, %d", waits, late)
	}
}
