package pipe_test

import (
	"fmt"
	"math"
	"math/rand"
	"runtime"
	"slices"
	"strings"
	"testing"
	"time"
	"weak"

	"stillage/api"
	"stillage/pipe"
)

const most = 4096 // things of the greatest pipe

// made is a pipe with as much room as may be asked for.
func made[T any](t testing.TB, room int) *pipe.Pipe[T] {
	t.Helper()
	p, e := pipe.New[T](room)
	if p == nil || e != api.OK {
		t.Fatalf("New(%d): %d", room, e)
	}
	return p
}

// filled is a pipe that has these things.
func filled[T any](t testing.TB, room int, things ...T) *pipe.Pipe[T] {
	t.Helper()
	p := made[T](t, room)
	for i, x := range things {
		if !p.Send(x) {
			t.Fatalf("room %d: number %d is not let in", room, i)
		}
	}
	return p
}

// taken are all things of a pipe, the first one first; it has none then.
func taken[T any](p *pipe.Pipe[T]) []T {
	var l []T
	for {
		x, ok := p.Take()
		if !ok {
			return l
		}
		l = append(l, x)
	}
}

// model is a pipe by the words of the document.
type model struct {
	room   int
	things []int
	closed bool
}

func (m *model) send(x int) bool {
	if m.closed || len(m.things) == m.room {
		return false
	}
	m.things = append(m.things, x)
	return true
}

func (m *model) take() (int, bool) {
	if len(m.things) == 0 {
		return 0, false
	}
	x := m.things[0]
	m.things = slices.Clone(m.things[1:])
	return x, true
}

func (m *model) close() bool {
	was := m.closed
	m.closed = true
	return !was
}

func modelEither(a, b *model) (int, int) {
	for i, m := range []*model{a, b} {
		if x, ok := m.take(); ok {
			return x, i + 1
		}
	}
	return 0, 0
}

func modelMove(from, to *model) int {
	n := 0
	for from != to && len(from.things) > 0 && len(to.things) < to.room && !to.closed {
		x, _ := from.take()
		to.send(x)
		n++
	}
	return n
}

// call is one on the pipe of a place, of two; Either and Move are told the second one's place, too.
type call struct{ kind, place, other int }

// Kinds of calls.
const (
	callSend = iota
	callTake
	callClose
	callEither
	callMove
	callKinds
)

func (x call) String() string {
	a, b := "ab"[x.place:x.place+1], "ab"[x.other:x.other+1]
	return [...]string{a + ".Send", a + ".Take", a + ".Close", "Either(" + a + ", " + b + ")", "Move(" + a + ", " + b + ")"}[x.kind]
}

// allCalls are all that differ.
func allCalls() []call {
	var l []call
	for place := range 2 {
		for _, kind := range []int{callSend, callTake, callClose} {
			l = append(l, call{kind, place, 0})
		}
		for other := range 2 {
			l = append(l, call{callEither, place, other}, call{callMove, place, other})
		}
	}
	return l
}

// answer is what a call answers: a thing or a number, and whether, or of which.
type answer struct {
	n, which int
	ok       bool
}

func answered(p [2]*pipe.Pipe[int], x call, thing int) (y answer) {
	switch x.kind {
	case callSend:
		y.ok = p[x.place].Send(thing)
	case callTake:
		y.n, y.ok = p[x.place].Take()
	case callClose:
		y.ok = p[x.place].Close()
	case callEither:
		y.n, y.which = pipe.Either(p[x.place], p[x.other])
	default:
		y.n = pipe.Move(p[x.place], p[x.other])
	}
	return y
}

func wanted(m [2]*model, x call, thing int) (y answer) {
	switch x.kind {
	case callSend:
		y.ok = m[x.place].send(thing)
	case callTake:
		y.n, y.ok = m[x.place].take()
	case callClose:
		y.ok = m[x.place].close()
	case callEither:
		y.n, y.which = modelEither(m[x.place], m[x.other])
	default:
		y.n = modelMove(m[x.place], m[x.other])
	}
	return y
}

// hold makes calls on two new pipes that have some things, holds each answer, and how many they have behind each, against the model's, and last what they have.
func hold(t *testing.T, rooms, fill [2]int, calls []call) {
	t.Helper()
	var p [2]*pipe.Pipe[int]
	var m [2]*model
	thing := 0
	for i := range p {
		p[i], m[i] = made[int](t, rooms[i]), &model{room: rooms[i]}
		for range fill[i] {
			thing++
			if got, want := p[i].Send(thing), m[i].send(thing); got != want {
				t.Fatalf("rooms %d, filled by %d: Send %t", rooms, fill, got)
			}
		}
	}
	for i, x := range calls {
		thing++
		if got, want := answered(p, x, thing), wanted(m, x, thing); got != want {
			t.Fatalf("rooms %d, filled by %d, %v, number %d: %v, not %v", rooms, fill, calls, i, got, want)
		}
		for j := range p {
			if got, want := p[j].Len(), len(m[j].things); got != want {
				t.Fatalf("rooms %d, filled by %d, %v, behind number %d: %c has %d things, not %d", rooms, fill, calls, i, "ab"[j], got, want)
			}
		}
	}
	for j := range p {
		if got := taken(p[j]); !slices.Equal(got, m[j].things) {
			t.Fatalf("rooms %d, filled by %d, %v: %c has %d, not %d", rooms, fill, calls, "ab"[j], got, m[j].things)
		}
	}
}

// P5.1

func TestNew(t *testing.T) {
	for _, room := range []int{1, 2, 3, 64, 4095, most} {
		p := made[string](t, room)
		if n := p.Len(); n != 0 {
			t.Errorf("room %d: %d things", room, n)
		}
		if x, ok := p.Take(); x != "" || ok {
			t.Errorf("room %d: Take %q, %t", room, x, ok)
		}
		if !p.Send("a") {
			t.Errorf("room %d: it is closed, or has no room", room)
		}
		if q := made[string](t, room); !q.Close() {
			t.Errorf("room %d: it is closed", room)
		}
	}
}

func TestNewNoRoom(t *testing.T) {
	for _, room := range []int{0, -1, -2, -most, math.MinInt, most + 1, most + 2, 2 * most, 65536, 1 << 32, 1<<32 + 1, math.MaxInt} {
		if p, e := pipe.New[string](room); p != nil || e != api.ErrPipeRoom {
			t.Errorf("New(%d): %v, %d", room, p, e)
		}
	}
}

// P5.2

func TestExample(t *testing.T) {
	p := made[int](t, 2)
	if !p.Send(5) || !p.Send(6) || p.Send(7) {
		t.Error("Send")
	}
	if x, ok := p.Take(); x != 5 || !ok {
		t.Errorf("Take: %d, %t", x, ok)
	}
	q := filled(t, 1, 8)
	for _, want := range []answer{{n: 6, which: 1}, {n: 8, which: 2}, {}, {}} {
		if x, which := pipe.Either(p, q); x != want.n || which != want.which {
			t.Errorf("Either: %d, %d, not %d, %d", x, which, want.n, want.which)
		}
	}
}

// TestRoom: each pipe has as many things as there is room for, and no more, and each that was taken leaves its room.
func TestRoom(t *testing.T) {
	for _, room := range []int{1, 2, 3, 4, 5, 7, 8, 9, 64, 1000, 4095, most} {
		p := made[int](t, room)
		for i := range room {
			if !p.Send(i) || p.Len() != i+1 {
				t.Fatalf("room %d, number %d: it has %d", room, i, p.Len())
			}
		}
		for i := range 2 * room {
			if p.Send(-1) || p.Len() != room {
				t.Fatalf("room %d: one more is let in", room)
			}
			if x, ok := p.Take(); x != i || !ok || p.Len() != room-1 {
				t.Fatalf("room %d: Take %d, %t, not %d; it has %d", room, x, ok, i, p.Len())
			}
			if !p.Send(room + i) {
				t.Fatalf("room %d: what was taken leaves no room", room)
			}
		}
		for i := range room {
			if x, ok := p.Take(); x != 2*room+i || !ok || p.Len() != room-1-i {
				t.Fatalf("room %d: Take %d, %t, not %d; it has %d", room, x, ok, 2*room+i, p.Len())
			}
		}
		if x, ok := p.Take(); x != 0 || ok || p.Len() != 0 {
			t.Fatalf("room %d: Take %d, %t", room, x, ok)
		}
	}
}

// TestClosed: nothing more is let in, however much room there is, and for good; what is there is taken all the same.
func TestClosed(t *testing.T) {
	for have := range 4 {
		p := filled(t, 3, []string{"a", "b", "c"}[:have]...)
		if !p.Close() {
			t.Errorf("%d things: it was closed", have)
		}
		for i := range 5 {
			if p.Close() {
				t.Errorf("%d things: it was not closed", have)
			}
			if p.Send("z") {
				t.Errorf("%d things: one more is let in", have)
			}
			left := max(0, have-i)
			if n := p.Len(); n != left {
				t.Errorf("%d things, %d taken: it has %d", have, i, n)
			}
			want := ""
			if i < have {
				want = "abc"[i : i+1]
			}
			if x, ok := p.Take(); x != want || ok != (i < have) {
				t.Errorf("%d things, %d taken: Take %q, %t", have, i, x, ok)
			}
		}
	}
}

// TestZero: a thing that is a zero value is one all the same.
func TestZero(t *testing.T) {
	p := filled(t, 3, 0, 0)
	if n := p.Len(); n != 2 {
		t.Errorf("it has %d", n)
	}
	if x, ok := p.Take(); x != 0 || !ok {
		t.Errorf("Take: %d, %t", x, ok)
	}
	q := made[int](t, 1)
	if n := pipe.Move(p, q); n != 1 {
		t.Errorf("Move: %d", n)
	}
	if x, which := pipe.Either(p, q); x != 0 || which != 2 {
		t.Errorf("Either: %d, %d", x, which)
	}
	if x, ok := q.Take(); x != 0 || ok {
		t.Errorf("Take: %d, %t", x, ok)
	}
	r := filled[error](t, 1, nil)
	if x, ok := r.Take(); x != nil || !ok {
		t.Errorf("Take: %v, %t", x, ok)
	}
	if x, ok := r.Take(); x != nil || ok {
		t.Errorf("Take: %v, %t", x, ok)
	}
}

// soon fails if something waits.
func soon(t *testing.T, name string, do func()) {
	t.Helper()
	end := make(chan struct{})
	go func() {
		defer close(end)
		do()
	}()
	select {
	case <-end:
	case <-time.After(20 * time.Second):
		t.Fatalf("%s waits", name)
	}
}

// TestNoCallWaits: not at a pipe that is empty, full or closed, or at two that are one.
func TestNoCallWaits(t *testing.T) {
	for have := range 3 {
		for _, closed := range []bool{false, true} {
			name := fmt.Sprintf("%d things, closed: %t: ", have, closed)
			fresh := func() *pipe.Pipe[int] {
				p := filled(t, 2, []int{1, 2}[:have]...)
				if closed {
					p.Close()
				}
				return p
			}
			p, q, r, s := fresh(), fresh(), fresh(), fresh()
			soon(t, name+"Send", func() {
				for range 9 {
					p.Send(3)
				}
			})
			soon(t, name+"Take", func() {
				for range 9 {
					q.Take()
				}
			})
			soon(t, name+"Move", func() {
				pipe.Move(r, s)
				pipe.Move(p, p)
			})
			soon(t, name+"Either", func() {
				for range 9 {
					pipe.Either(p, p)
					pipe.Either(p, q)
				}
			})
			soon(t, name+"Close", func() {
				p.Close()
				p.Close()
				p.Len()
			})
		}
	}
}

// P5.3

// TestEither: the first pipe goes first, whatever the other one has; only its first thing goes.
func TestEither(t *testing.T) {
	for _, x := range []struct {
		a, b         []int
		want, which  int
		leftA, leftB []int
	}{
		{nil, nil, 0, 0, nil, nil},
		{[]int{1}, nil, 1, 1, nil, nil},
		{nil, []int{2}, 2, 2, nil, nil},
		{[]int{1}, []int{2}, 1, 1, nil, []int{2}},
		{[]int{1, 3}, []int{2}, 1, 1, []int{3}, []int{2}},
		{[]int{3, 1, 5}, []int{2, 4, 6}, 3, 1, []int{1, 5}, []int{2, 4, 6}},
		{nil, []int{4, 2, 6}, 4, 2, nil, []int{2, 6}},
	} {
		for closed := range 4 {
			a, b := filled(t, 3, x.a...), filled(t, 3, x.b...)
			if closed&1 != 0 {
				a.Close()
			}
			if closed&2 != 0 {
				b.Close()
			}
			if got, which := pipe.Either(a, b); got != x.want || which != x.which {
				t.Errorf("%d, %d, closed %d: %d, %d, not %d, %d", x.a, x.b, closed, got, which, x.want, x.which)
			}
			if l := taken(a); !slices.Equal(l, x.leftA) {
				t.Errorf("%d, %d, closed %d: a has %d, not %d", x.a, x.b, closed, l, x.leftA)
			}
			if l := taken(b); !slices.Equal(l, x.leftB) {
				t.Errorf("%d, %d, closed %d: b has %d, not %d", x.a, x.b, closed, l, x.leftB)
			}
		}
	}
}

// TestEitherSteady: of two that both have things it is always the first one (no chance is in it).
func TestEitherSteady(t *testing.T) {
	a, b := made[int](t, 500), made[int](t, 500)
	for i := range 500 {
		a.Send(i)
		b.Send(1000 + i)
	}
	for i := range 1000 {
		want := answer{n: i, which: 1}
		if i >= 500 {
			want = answer{n: 500 + i, which: 2}
		}
		if x, which := pipe.Either(a, b); x != want.n || which != want.which {
			t.Fatalf("number %d: %d, %d", i, x, which)
		}
	}
}

// TestEitherOne: a and b may be one.
func TestEitherOne(t *testing.T) {
	p := filled(t, 3, "x", "y", "z")
	for i := range 5 {
		want, from := "", 0
		if i < 3 {
			want, from = "xyz"[i:i+1], 1
		}
		if x, which := pipe.Either(p, p); x != want || which != from || p.Len() != max(0, 2-i) {
			t.Errorf("number %d: %q, %d; it has %d", i, x, which, p.Len())
		}
		if i == 1 {
			p.Close()
		}
	}
}

// TestMove: as many as from has, and to has room for, to the end of to.
func TestMove(t *testing.T) {
	for _, x := range []struct {
		from, to     []int
		room, want   int
		left, behind []int
	}{
		{nil, nil, 2, 0, nil, nil},
		{nil, []int{9}, 2, 0, nil, []int{9}},
		{[]int{1}, nil, 2, 1, nil, []int{1}},
		{[]int{1, 2}, nil, 2, 2, nil, []int{1, 2}},
		{[]int{1, 2, 3}, nil, 2, 2, []int{3}, []int{1, 2}},
		{[]int{1, 2, 3}, []int{9}, 2, 1, []int{2, 3}, []int{9, 1}},
		{[]int{1, 2, 3}, []int{9, 8}, 2, 0, []int{1, 2, 3}, []int{9, 8}},
		{[]int{1, 2, 3}, []int{9, 8}, 5, 3, nil, []int{9, 8, 1, 2, 3}},
		{[]int{1, 2, 3}, []int{9, 8}, 6, 3, nil, []int{9, 8, 1, 2, 3}},
		{[]int{3, 1, 2, 5, 4}, []int{7}, 4, 3, []int{5, 4}, []int{7, 3, 1, 2}},
		{[]int{1, 2, 3}, nil, 1, 1, []int{2, 3}, []int{1}},
	} {
		for closed := range 4 {
			from, to := filled(t, 5, x.from...), filled(t, x.room, x.to...)
			want, left, behind := x.want, x.left, x.behind
			if closed&1 != 0 {
				from.Close()
			}
			if closed&2 != 0 {
				to.Close()
				want, left, behind = 0, x.from, x.to
			}
			name := fmt.Sprintf("%d to %d of %d, closed %d", x.from, x.to, x.room, closed)
			if n := pipe.Move(from, to); n != want {
				t.Errorf("%s: %d, not %d", name, n, want)
			}
			if from.Len() != len(left) || to.Len() != len(behind) {
				t.Errorf("%s: %d and %d things, not %d and %d", name, from.Len(), to.Len(), len(left), len(behind))
			}
			if closed&1 == 0 && len(left) < 5 && !from.Send(0) {
				t.Errorf("%s: from lets nothing in any more", name)
			}
			if l := taken(to); !slices.Equal(l, behind) {
				t.Errorf("%s: to has %d, not %d", name, l, behind)
			}
			if l := taken(from)[:len(left)]; !slices.Equal(l, left) {
				t.Errorf("%s: from has %d, not %d", name, l, left)
			}
		}
	}
}

// TestMoveOne: nothing becomes of a pipe that is both, full or not, closed or not.
func TestMoveOne(t *testing.T) {
	for have := range 4 {
		for _, closed := range []bool{false, true} {
			want := []string{"x", "y", "z"}[:have]
			p := filled(t, 3, want...)
			if closed {
				p.Close()
			}
			soon(t, "Move", func() {
				if n := pipe.Move(p, p); n != 0 || p.Len() != have {
					t.Errorf("%d things, closed: %t: %d, it has %d", have, closed, n, p.Len())
				}
			})
			if l := taken(p); !slices.Equal(l, want) {
				t.Errorf("%d things, closed: %t: it has %q", have, closed, l)
			}
		}
	}
}

// TestMoveMost: the greatest pipe's things all go, in order.
func TestMoveMost(t *testing.T) {
	p, q, r := made[int](t, most), made[int](t, most), made[int](t, most-1)
	for i := range most {
		p.Send(i)
	}
	if n := pipe.Move(p, q); n != most || p.Len() != 0 || q.Len() != most {
		t.Errorf("Move: %d; they have %d and %d", n, p.Len(), q.Len())
	}
	if n := pipe.Move(q, r); n != most-1 || q.Len() != 1 || r.Len() != most-1 {
		t.Errorf("Move: %d; they have %d and %d", n, q.Len(), r.Len())
	}
	for i := range most {
		if x, which := pipe.Either(r, q); x != i || which == 0 {
			t.Fatalf("number %d is %d, of %d", i, x, which)
		}
	}
}

// P5.2 to P5.4, all together

// TestAllRows: each row of four calls on two small pipes, whatever they have.
func TestAllRows(t *testing.T) {
	kinds := allCalls()
	var starts [][2][2]int // rooms, things
	for roomA := 1; roomA <= 2; roomA++ {
		for roomB := 1; roomB <= 2; roomB++ {
			for haveA := range roomA + 1 {
				for haveB := range roomB + 1 {
					starts = append(starts, [2][2]int{{roomA, roomB}, {haveA, haveB}})
				}
			}
		}
	}
	calls := make([]call, 4)
	for row := range len(kinds) * len(kinds) * len(kinds) * len(kinds) {
		for i, rest := 0, row; i < len(calls); i++ {
			calls[i] = kinds[rest%len(kinds)]
			rest /= len(kinds)
		}
		for _, s := range starts {
			hold(t, s[0], s[1], calls)
		}
	}
}

// some is a call by chance; few pipes are closed, and more is sent than taken, so that they come to be full.
func some(chance *rand.Rand) call {
	kinds := allCalls()
	x := kinds[chance.Intn(len(kinds))]
	if x.kind == callClose && chance.Intn(100) != 0 || chance.Intn(4) == 0 {
		x.kind = callSend
	}
	return x
}

// TestLongRows: long rows of calls on greater pipes.
func TestLongRows(t *testing.T) {
	chance := rand.New(rand.NewSource(5))
	for range 400 {
		rooms := [2]int{1 + chance.Intn(20), 1 + chance.Intn(20)}
		fill := [2]int{chance.Intn(rooms[0] + 1), chance.Intn(rooms[1] + 1)}
		var calls []call
		for range 500 {
			calls = append(calls, some(chance))
		}
		hold(t, rooms, fill, calls)
	}
}

// FuzzCalls makes whatever calls bytes say.
func FuzzCalls(f *testing.F) {
	f.Add(uint8(1), uint8(1), "\x00\x00\x01\x07\x03\x04\x05\x06")
	f.Add(uint8(3), uint8(2), "\x00\x07\x00\x07\x04\x06\x02\x03\x0d")
	f.Fuzz(func(t *testing.T, a, b uint8, s string) {
		kinds := allCalls()
		var calls []call
		for i := range min(len(s), 400) {
			calls = append(calls, kinds[int(s[i])%len(kinds)])
		}
		hold(t, [2]int{1 + int(a)%50, 1 + int(b)%50}, [2]int{}, calls)
	})
}

// P5.4

// TestInOrder: things that go through a row of pipes are taken in the order in which they were sent, each once, none is lost.
func TestInOrder(t *testing.T) {
	chance := rand.New(rand.NewSource(54))
	for range 200 {
		var row []*pipe.Pipe[int]
		for range 1 + chance.Intn(4) {
			row = append(row, made[int](t, 1+chance.Intn(6)))
		}
		sent, next := 0, 0
		for sent < 300 || next < sent {
			switch i := chance.Intn(len(row) + 1); {
			case i == 0:
				if sent < 300 && row[0].Send(sent) {
					sent++
				}
			case i < len(row):
				pipe.Move(row[i-1], row[i])
			default:
				x, ok := row[i-1].Take()
				if !ok {
					continue
				}
				if x != next {
					t.Fatalf("%d is taken, not %d, of %d pipes", x, next, len(row))
				}
				next++
			}
			n := 0
			for _, p := range row {
				n += p.Len()
			}
			if n != sent-next {
				t.Fatalf("%d were sent, %d were taken, %d are there", sent, next, n)
			}
		}
	}
}

// Things of other kinds.

// huge is more than a channel takes as an item of its own.
type huge [1 << 17]byte

// TestHuge: things may be of any size.
func TestHuge(t *testing.T) {
	p, q := made[huge](t, most), made[huge](t, 1)
	for i := range 3 {
		var x huge
		x[0], x[len(x)-1] = byte(1+i), byte(11+i)
		if !p.Send(x) {
			t.Fatalf("number %d is not let in", i)
		}
		x[0] = 99 // what was sent is not the sender's any more
	}
	if n := pipe.Move(p, q); n != 1 {
		t.Errorf("Move: %d", n)
	}
	for i := range 3 {
		x, which := pipe.Either(q, p)
		if which != 1+min(i, 1) || x[0] != byte(1+i) || x[len(x)-1] != byte(11+i) {
			t.Errorf("number %d: %d, %d, of %d", i, x[0], x[len(x)-1], which)
		}
	}
	if x, ok := p.Take(); ok || x != (huge{}) {
		t.Error("there is one that was not sent")
	}
}

// TestThings: things may be of any kind.
func TestThings(t *testing.T) {
	f := filled(t, 2, func() int { return 5 }, nil)
	if x, ok := f.Take(); !ok || x() != 5 {
		t.Error("the first one is another function")
	}
	if x, ok := f.Take(); !ok || x != nil {
		t.Error("the second one is a function")
	}
	if x, ok := f.Take(); ok || x != nil {
		t.Error("there is one that was not sent")
	}
	n := filled(t, 3, math.NaN())
	if x, ok := n.Take(); !ok || x == x {
		t.Errorf("no number is %g, %t", x, ok)
	}
	e := filled(t, 2, struct{}{}, struct{}{})
	if e.Send(struct{}{}) || e.Len() != 2 || len(taken(e)) != 2 {
		t.Error("things without bytes are not counted")
	}
	i := filled[any](t, 5, nil, 0, "", []int(nil), map[int]int{1: 2})
	if l := taken(i); len(l) != 5 || l[0] != nil || l[1] != 0 || l[2] != "" || l[3].([]int) != nil || l[4].(map[int]int)[1] != 2 {
		t.Errorf("interfaces are %v", l)
	}
	long := strings.Repeat("ab", 1<<20)
	if l := taken(filled(t, 2, long, "")); !slices.Equal(l, []string{long, ""}) {
		t.Error("long texts are others")
	}
}

// TestPipesInPipes: a pipe may be a thing.
func TestPipesInPipes(t *testing.T) {
	inner := filled(t, 2, 7)
	p := filled(t, 2, inner, nil)
	if x, ok := p.Take(); x != inner || !ok || x.Len() != 1 {
		t.Errorf("Take: %v, %t", x, ok)
	}
	if x, ok := p.Take(); x != nil || !ok {
		t.Errorf("Take: %v, %t", x, ok)
	}
}

// R4, R5

// TestSentApart: what is sent twice, and changed between, is two things.
func TestSentApart(t *testing.T) {
	type pair struct{ a, b int }
	p := made[pair](t, 3)
	x := pair{1, 2}
	for range 3 {
		p.Send(x)
		x.a++
	}
	y, _ := p.Take()
	y.b = 99
	if l := taken(p); !slices.Equal(l, []pair{{2, 2}, {3, 2}}) {
		t.Errorf("it has %v", l)
	}
}

// TestPipesApart: each goes its own way.
func TestPipesApart(t *testing.T) {
	a, b := filled(t, 2, 1, 2), made[int](t, 2)
	if b.Len() != 0 || !a.Close() || !b.Send(3) || !b.Close() {
		t.Error("one pipe tells of another one")
	}
	if x, y := taken(a), taken(b); !slices.Equal(x, []int{1, 2}) || !slices.Equal(y, []int{3}) {
		t.Errorf("they have %d and %d", x, y)
	}
}

// big is a thing that has memory of its own.
type big struct {
	self  *big
	bytes [1000]byte
}

// watched is a new thing, and how it can be watched.
func watched() (*big, weak.Pointer[big]) {
	b := &big{}
	return b, weak.Make(b)
}

// sendWatched sends a new thing, and tells how it can be watched.
func sendWatched(p *pipe.Pipe[*big]) weak.Pointer[big] {
	b, w := watched()
	p.Send(b)
	return w
}

// TestForgets: what was taken, moved on, or not let in is not kept; what waits is.
func TestForgets(t *testing.T) {
	p, q := made[*big](t, 4), made[*big](t, 1)
	first, second, third := sendWatched(p), sendWatched(p), sendWatched(p)
	kept, full := sendWatched(p), sendWatched(p)
	p.Take()
	pipe.Either(p, q)
	pipe.Move(p, q)
	q.Take()
	p.Close()
	closed := sendWatched(p)
	runtime.GC()
	for name, w := range map[string]weak.Pointer[big]{"was taken": first, "was either's": second, "was moved": third, "came to a full pipe": full, "came to a closed pipe": closed} {
		if w.Value() != nil {
			t.Errorf("what %s is still there", name)
		}
	}
	if kept.Value() == nil {
		t.Error("what waits is not there")
	}
	runtime.KeepAlive(p)
	runtime.KeepAlive(q)
}

// TestSmall: a pipe without things has little memory, whatever its room and its things' size.
func TestSmall(t *testing.T) {
	var ahead, behind runtime.MemStats
	runtime.ReadMemStats(&ahead)
	p := made[[60000]byte](t, most)
	runtime.ReadMemStats(&behind)
	if n := behind.TotalAlloc - ahead.TotalAlloc; n > 1<<20 {
		t.Errorf("%d bytes", n)
	}
	runtime.KeepAlive(p)
}
