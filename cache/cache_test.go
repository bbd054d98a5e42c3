package cache_test

import (
	"fmt"
	"math"
	"math/rand"
	"runtime"
	"slices"
	"strings"
	"testing"
	"weak"

	"stillage/api"
	"stillage/cache"
)

const most = 65536 // things of the greatest cache

// made is a cache with as much room as may be asked for.
func made[K comparable, V any](t testing.TB, room int) *cache.Cache[K, V] {
	t.Helper()
	c, e := cache.New[K, V](room)
	if c == nil || e != api.OK {
		t.Fatalf("New(%d): %d", room, e)
	}
	return c
}

// thing is one of a model's, by its key.
type thing struct{ key, value int }

// model is a cache by the words of the document: its things stand in the order in which they were used, the last one first.
type model struct {
	room   int
	things []thing
}

func (m *model) at(key int) int {
	return slices.IndexFunc(m.things, func(x thing) bool { return x.key == key })
}

func (m *model) get(key int) (int, bool) {
	i := m.at(key)
	if i < 0 {
		return 0, false
	}
	x := m.things[i]
	m.things = slices.Insert(slices.Delete(m.things, i, i+1), 0, x)
	return x.value, true
}

func (m *model) put(key, value int) (int, bool) {
	if i := m.at(key); i >= 0 {
		m.things = slices.Delete(m.things, i, i+1)
	}
	m.things = slices.Insert(m.things, 0, thing{key, value})
	if len(m.things) <= m.room {
		return 0, false
	}
	gone := m.things[m.room].key
	m.things = m.things[:m.room]
	return gone, true
}

func (m *model) drop(key int) bool {
	i := m.at(key)
	if i >= 0 {
		m.things = slices.Delete(m.things, i, i+1)
	}
	return i >= 0
}

func (m *model) keys() []int {
	var l []int
	for _, x := range m.things {
		l = append(l, x.key)
	}
	return l
}

// call is one of a cache's, on a key.
type call struct{ kind, key, value int }

const (
	callGet = iota
	callPut
	callDrop
	callKinds
)

func (x call) String() string {
	switch x.kind {
	case callGet:
		return fmt.Sprintf("Get(%d)", x.key)
	case callPut:
		return fmt.Sprintf("Put(%d, %d)", x.key, x.value)
	default:
		return fmt.Sprintf("Drop(%d)", x.key)
	}
}

// answered is what a cache answers.
func answered(c *cache.Cache[int, int], x call) (n int, ok bool) {
	switch x.kind {
	case callGet:
		return c.Get(x.key)
	case callPut:
		return c.Put(x.key, x.value)
	default:
		return 0, c.Drop(x.key)
	}
}

// wanted is what the model answers.
func wanted(m *model, x call) (n int, ok bool) {
	switch x.kind {
	case callGet:
		return m.get(x.key)
	case callPut:
		return m.put(x.key, x.value)
	default:
		return 0, m.drop(x.key)
	}
}

// hold makes calls on a new cache, and holds each answer, and the keys behind each, against the model's.
func hold(t *testing.T, room int, calls []call) {
	t.Helper()
	c, m := made[int, int](t, room), &model{room: room}
	for i, x := range calls {
		n, ok := answered(c, x)
		if want, is := wanted(m, x); n != want || ok != is {
			t.Fatalf("room %d, %v, number %d: %d, %t, not %d, %t", room, calls, i, n, ok, want, is)
		}
		if got, want := c.Keys(), m.keys(); !slices.Equal(got, want) {
			t.Fatalf("room %d, %v, behind number %d: keys %d, not %d", room, calls, i, got, want)
		}
	}
}

// P4.1

func TestNew(t *testing.T) {
	for _, room := range []int{1, 2, 3, 32, 65535, most} {
		c := made[string, int](t, room)
		if l := c.Keys(); len(l) != 0 {
			t.Errorf("room %d: keys %q", room, l)
		}
		if v, ok := c.Get(""); v != 0 || ok {
			t.Errorf("room %d: Get %d, %t", room, v, ok)
		}
		if c.Drop("") {
			t.Errorf("room %d: something is dropped", room)
		}
	}
}

func TestNewNoRoom(t *testing.T) {
	for _, room := range []int{0, -1, -2, -most, math.MinInt, most + 1, most + 2, 2 * most, 1 << 32, 1<<32 + 1, math.MaxInt} {
		if c, e := cache.New[string, int](room); c != nil || e != api.ErrCacheRoom {
			t.Errorf("New(%d): %v, %d", room, c, e)
		}
	}
}

// P4.2

func TestExample(t *testing.T) {
	c := made[int, string](t, 2)
	for i, s := range []string{"a", "b"} {
		if gone, ok := c.Put(i+1, s); gone != 0 || ok {
			t.Errorf("Put(%d, %s): %d, %t", i+1, s, gone, ok)
		}
	}
	if s, ok := c.Get(1); s != "a" || !ok {
		t.Errorf("Get(1): %q, %t", s, ok)
	}
	if gone, ok := c.Put(3, "c"); gone != 2 || !ok {
		t.Errorf("Put(3, c): %d, %t", gone, ok)
	}
	if l := c.Keys(); !slices.Equal(l, []int{3, 1}) {
		t.Errorf("keys %d", l)
	}
}

// TestUsed: which calls use a key, and which don't.
func TestUsed(t *testing.T) {
	for _, x := range []struct {
		calls []call
		want  []int
	}{
		{nil, []int{3, 2, 1}},
		{[]call{{callGet, 3, 0}}, []int{3, 2, 1}},
		{[]call{{callGet, 2, 0}}, []int{2, 3, 1}},
		{[]call{{callGet, 1, 0}}, []int{1, 3, 2}},
		{[]call{{callGet, 1, 0}, {callGet, 1, 0}}, []int{1, 3, 2}},
		{[]call{{callGet, 1, 0}, {callGet, 2, 0}}, []int{2, 1, 3}},
		{[]call{{callGet, 4, 0}}, []int{3, 2, 1}},
		{[]call{{callGet, 4, 0}, {callPut, 5, 0}}, []int{5, 3, 2}},
		{[]call{{callPut, 3, 9}}, []int{3, 2, 1}},
		{[]call{{callPut, 2, 9}}, []int{2, 3, 1}},
		{[]call{{callPut, 1, 9}}, []int{1, 3, 2}},
		{[]call{{callPut, 1, 9}, {callPut, 4, 0}}, []int{4, 1, 3}},
		{[]call{{callPut, 4, 0}}, []int{4, 3, 2}},
		{[]call{{callPut, 4, 0}, {callPut, 5, 0}, {callPut, 6, 0}, {callPut, 7, 0}}, []int{7, 6, 5}},
		{[]call{{callDrop, 3, 0}}, []int{2, 1}},
		{[]call{{callDrop, 2, 0}}, []int{3, 1}},
		{[]call{{callDrop, 1, 0}}, []int{3, 2}},
		{[]call{{callDrop, 4, 0}}, []int{3, 2, 1}},
		{[]call{{callDrop, 1, 0}, {callGet, 1, 0}}, []int{3, 2}},
		{[]call{{callDrop, 1, 0}, {callPut, 1, 0}}, []int{1, 3, 2}},
		{[]call{{callDrop, 2, 0}, {callPut, 4, 0}}, []int{4, 3, 1}},
		{[]call{{callDrop, 1, 0}, {callDrop, 2, 0}, {callDrop, 3, 0}}, nil},
	} {
		c := made[int, int](t, 3)
		for _, y := range append([]call{{callPut, 1, 11}, {callPut, 2, 12}, {callPut, 3, 13}}, x.calls...) {
			answered(c, y)
		}
		if l := c.Keys(); !slices.Equal(l, x.want) {
			t.Errorf("%v: keys %d, not %d", x.calls, l, x.want)
		}
	}
}

// TestPutAgain: the thing is the one that was put last, and nothing goes.
func TestPutAgain(t *testing.T) {
	for _, room := range []int{1, 2, 3} {
		c := made[string, int](t, room)
		for i := range 5 {
			if gone, ok := c.Put("k", i); gone != "" || ok {
				t.Errorf("room %d, %d: %q, %t", room, i, gone, ok)
			}
			if v, ok := c.Get("k"); v != i || !ok {
				t.Errorf("room %d, %d: Get %d, %t", room, i, v, ok)
			}
			if l := c.Keys(); !slices.Equal(l, []string{"k"}) {
				t.Errorf("room %d, %d: keys %q", room, i, l)
			}
		}
	}
}

// TestGone: whoever goes has no thing any more, and may be put again.
func TestGone(t *testing.T) {
	c := made[string, int](t, 2)
	c.Put("a", 1)
	c.Put("b", 2)
	if gone, ok := c.Put("c", 3); gone != "a" || !ok {
		t.Errorf("%q, %t", gone, ok)
	}
	if v, ok := c.Get("a"); v != 0 || ok {
		t.Errorf("Get(a): %d, %t", v, ok)
	}
	if c.Drop("a") {
		t.Error("a is dropped")
	}
	if gone, ok := c.Put("a", 4); gone != "b" || !ok {
		t.Errorf("%q, %t", gone, ok)
	}
	if v, ok := c.Get("a"); v != 4 || !ok {
		t.Errorf("Get(a): %d, %t", v, ok)
	}
}

// TestDrop: what was dropped is there no more, once, and leaves its room to another one.
func TestDrop(t *testing.T) {
	c := made[string, int](t, 2)
	c.Put("a", 1)
	c.Put("b", 2)
	if !c.Drop("a") || c.Drop("a") || c.Drop("z") {
		t.Error("Drop")
	}
	if v, ok := c.Get("a"); v != 0 || ok {
		t.Errorf("Get(a): %d, %t", v, ok)
	}
	if gone, ok := c.Put("c", 3); gone != "" || ok {
		t.Errorf("Put(c): %q, %t", gone, ok)
	}
	if gone, ok := c.Put("d", 4); gone != "b" || !ok {
		t.Errorf("Put(d): %q, %t", gone, ok)
	}
	if !c.Drop("c") || !c.Drop("d") || len(c.Keys()) != 0 || c.Drop("d") {
		t.Errorf("keys %q", c.Keys())
	}
	if gone, ok := c.Put("a", 5); gone != "" || ok {
		t.Errorf("Put(a): %q, %t", gone, ok)
	}
	if v, ok := c.Get("a"); v != 5 || !ok {
		t.Errorf("Get(a): %d, %t", v, ok)
	}
}

// TestRoomOne: each key that comes takes the room of the one that is there.
func TestRoomOne(t *testing.T) {
	c := made[int, int](t, 1)
	c.Put(0, 10)
	for k := 1; k < 20; k++ {
		if gone, ok := c.Put(k, 10+k); gone != k-1 || !ok {
			t.Errorf("Put(%d): %d, %t", k, gone, ok)
		}
		if v, ok := c.Get(k - 1); v != 0 || ok {
			t.Errorf("Get(%d): %d, %t", k-1, v, ok)
		}
		if v, ok := c.Get(k); v != 10+k || !ok || !slices.Equal(c.Keys(), []int{k}) {
			t.Errorf("Get(%d): %d, %t, keys %d", k, v, ok, c.Keys())
		}
	}
}

// TestZero: a key and a thing that are zero values are ones all the same.
func TestZero(t *testing.T) {
	c := made[int, []int](t, 1)
	if gone, ok := c.Put(0, nil); gone != 0 || ok {
		t.Errorf("Put(0): %d, %t", gone, ok)
	}
	if v, ok := c.Get(0); v != nil || !ok || !slices.Equal(c.Keys(), []int{0}) {
		t.Errorf("Get(0): %d, %t, keys %d", v, ok, c.Keys())
	}
	if gone, ok := c.Put(1, []int{5}); gone != 0 || !ok {
		t.Errorf("Put(1): %d, %t", gone, ok)
	}
	if v, ok := c.Get(0); v != nil || ok || c.Drop(0) {
		t.Errorf("Get(0): %d, %t", v, ok)
	}
	if gone, ok := c.Put(0, nil); gone != 1 || !ok || !c.Drop(0) || len(c.Keys()) != 0 {
		t.Errorf("Put(0): %d, %t", gone, ok)
	}
}

// TestMostThings: the greatest cache has as many things, and no more.
func TestMostThings(t *testing.T) {
	c := made[int, int](t, most)
	for k := range most {
		if gone, ok := c.Put(k, -k); gone != 0 || ok {
			t.Fatalf("Put(%d): %d, %t", k, gone, ok)
		}
	}
	l := c.Keys()
	slices.Reverse(l)
	for k := range most {
		if l[k] != k {
			t.Fatalf("key %d is %d", k, l[k])
		}
	}
	if v, ok := c.Get(0); v != 0 || !ok {
		t.Errorf("Get(0): %d, %t", v, ok)
	}
	for k := most; k < 2*most; k++ {
		want := k - most + 1
		if k == 2*most-1 {
			want = 0
		}
		if gone, ok := c.Put(k, -k); gone != want || !ok {
			t.Fatalf("Put(%d): %d, %t, not %d", k, gone, ok, want)
		}
	}
	if n := len(c.Keys()); n != most {
		t.Errorf("%d keys", n)
	}
	for k := most; k < 2*most; k++ {
		if v, ok := c.Get(k); v != -k || !ok {
			t.Fatalf("Get(%d): %d, %t", k, v, ok)
		}
		if !c.Drop(k) {
			t.Fatalf("%d is not dropped", k)
		}
	}
	if l := c.Keys(); len(l) != 0 {
		t.Errorf("%d keys", len(l))
	}
}

// TestAllRows: each row of six calls on two keys, and of five on three, in each room up to three.
func TestAllRows(t *testing.T) {
	for _, x := range []struct{ keys, size int }{{2, 6}, {3, 5}} {
		rows := 1
		for range x.size {
			rows *= callKinds * x.keys
		}
		for row := range rows {
			var calls []call
			for i, rest := 0, row; i < x.size; i++ {
				which := rest % (callKinds * x.keys)
				rest /= callKinds * x.keys
				calls = append(calls, call{which % callKinds, which / callKinds, 100 + i})
			}
			for room := 1; room <= 3; room++ {
				hold(t, room, calls)
			}
		}
	}
}

// some is a call by chance; few are dropped, so that caches come to be full.
func some(chance *rand.Rand, keys int) call {
	x := call{chance.Intn(callKinds), chance.Intn(keys), chance.Int()}
	if x.kind == callDrop && chance.Intn(3) != 0 {
		x.kind = callPut
	}
	return x
}

// TestLongRows: long rows of calls on some more keys than there is room for.
func TestLongRows(t *testing.T) {
	chance := rand.New(rand.NewSource(4))
	for range 300 {
		room := 1 + chance.Intn(20)
		keys := room + 1 + chance.Intn(room+2)
		var calls []call
		for range 500 {
			calls = append(calls, some(chance, keys))
		}
		hold(t, room, calls)
	}
}

// FuzzCalls makes whatever calls bytes say.
func FuzzCalls(f *testing.F) {
	f.Add(uint8(1), "\x01\x04\x07\x00\x03\x06\x02\x05\x08")
	f.Add(uint8(4), "\x01\x04\x07\x0a\x0d\x00\x10\x03\x02")
	f.Fuzz(func(t *testing.T, room uint8, s string) {
		var calls []call
		for i := range min(len(s), 400) {
			calls = append(calls, call{int(s[i]) % callKinds, int(s[i]) / callKinds, i})
		}
		hold(t, 1+int(room)%100, calls)
	})
}

// Keys that are none.

// nan is equal to no number.
var nan = math.NaN()

// sealed is a key that may hold what can't be compared.
type sealed struct {
	n    int
	what any
}

// tryNone makes all calls on a key that is none, on caches that have other things and on an empty one: none of them does anything.
func tryNone[K comparable](t *testing.T, name string, none, a, b, c K) {
	t.Helper()
	for have := range 3 {
		l := made[K, int](t, 2)
		var want []K
		for i, k := range []K{a, b}[:have] {
			l.Put(k, 7+i)
			want = []K{k, a}[:i+1]
		}
		for range 4 {
			if v, ok := l.Get(none); v != 0 || ok {
				t.Errorf("%s: Get %d, %t", name, v, ok)
			}
			var zero K
			if gone, ok := l.Put(none, 9); gone != zero || ok {
				t.Errorf("%s: Put %v, %t", name, gone, ok)
			}
			if l.Drop(none) {
				t.Errorf("%s: something is dropped", name)
			}
			if keys := l.Keys(); !slices.Equal(keys, want) {
				t.Errorf("%s: keys %v, not %v", name, keys, want)
			}
		}
		gone, ok := l.Put(c, 9)
		if ok != (have == 2) || ok && gone != a {
			t.Errorf("%s, behind %d things: Put %v, %t", name, have, gone, ok)
		}
		if v, ok := l.Get(c); v != 9 || !ok {
			t.Errorf("%s, behind %d things: Get %d, %t", name, have, v, ok)
		}
	}
}

// TestNotEqual: keys that are not equal to themselves.
func TestNotEqual(t *testing.T) {
	tryNone(t, "float64", nan, 0, 1, math.Inf(1))
	tryNone(t, "float32", float32(nan), 0, 1, 2)
	tryNone(t, "complex", complex(0, nan), 0, 1, complex(0, 1))
	tryNone(t, "array", [2]float64{1, nan}, [2]float64{}, [2]float64{1, 1}, [2]float64{1, 2})
	tryNone(t, "struct", struct{ a, b float64 }{nan, 1}, struct{ a, b float64 }{}, struct{ a, b float64 }{0, 1}, struct{ a, b float64 }{1, 1})
	tryNone[any](t, "interface", nan, 0, 1.0, "a")
	tryNone(t, "interface in a struct", sealed{1, nan}, sealed{}, sealed{1, 1}, sealed{1, "a"})
}

// TestNotComparable: keys that can't be held against themselves at all: no call panics (R1).
func TestNotComparable(t *testing.T) {
	for name, none := range map[string]any{
		"list":               []int{1},
		"nil list":           []int(nil),
		"map":                map[int]int{1: 1},
		"function":           func() {},
		"struct":             struct{ l []int }{},
		"array":              [1][]int{},
		"array of none":      [0]func(){},
		"within":             sealed{1, []int{1}},
		"deep within":        sealed{1, sealed{2, [1]any{map[int]int{}}}},
		"beside a number":    [2]any{1, []int{}},
		"beside no number":   [2]any{nan, []int{}},
		"ahead of no number": [2]any{[]int{}, nan},
	} {
		tryNone(t, name, none, nil, "a", 1)
		tryNone(t, name+" in a struct", sealed{1, none}, sealed{}, sealed{1, 1}, sealed{1, "a"})
		tryNone(t, name+" in an array", [2]any{1, none}, [2]any{}, [2]any{1, 1}, [2]any{1, "a"})
	}
}

// Keys and things of other kinds.

// TestEqualKeys: equal keys are one, however they are written.
func TestEqualKeys(t *testing.T) {
	c := made[float64, string](t, 2)
	c.Put(0, "a")
	if gone, ok := c.Put(math.Copysign(0, -1), "b"); gone != 0 || ok || len(c.Keys()) != 1 {
		t.Errorf("%g, %t, keys %g", gone, ok, c.Keys())
	}
	if s, ok := c.Get(0); s != "b" || !ok {
		t.Errorf("%q, %t", s, ok)
	}
	d := made[string, int](t, 2)
	d.Put("ab", 1)
	d.Put(strings.Join([]string{"a", "b"}, ""), 2)
	if v, ok := d.Get(string([]byte("ab"))); v != 2 || !ok || !slices.Equal(d.Keys(), []string{"ab"}) {
		t.Errorf("%d, %t, keys %q", v, ok, d.Keys())
	}
}

// TestUnequalKeys: unequal keys are several, however alike they are.
func TestUnequalKeys(t *testing.T) {
	x, y := new(int), new(int)
	keys := []any{nil, 0, int8(0), uint(0), 0.0, "", "0", "\x00", false, [1]int{}, [2]int{}, sealed{}, sealed{0, 0}, struct{}{}, x, y, (*int)(nil)}
	c := made[any, int](t, len(keys))
	for i, k := range keys {
		if gone, ok := c.Put(k, i); gone != nil || ok {
			t.Errorf("Put(%v): %v, %t", k, gone, ok)
		}
	}
	for i, k := range keys {
		if v, ok := c.Get(k); v != i || !ok {
			t.Errorf("Get(%v): %d, %t, not %d", k, v, ok, i)
		}
	}
	l := c.Keys()
	slices.Reverse(l)
	if !slices.Equal(l, keys) {
		t.Errorf("keys %v", l)
	}
	if gone, ok := c.Put(1, 1); gone != nil || !ok {
		t.Errorf("Put(1): %v, %t", gone, ok)
	}
}

// TestThings: things may be of any kind.
func TestThings(t *testing.T) {
	c := made[sealed, func() int](t, 2)
	c.Put(sealed{1, "a"}, func() int { return 5 })
	c.Put(sealed{1, "b"}, nil)
	if f, ok := c.Get(sealed{1, "a"}); !ok || f() != 5 {
		t.Error("a has another function")
	}
	if f, ok := c.Get(sealed{1, "b"}); !ok || f != nil {
		t.Error("b has a function")
	}
	if f, ok := c.Get(sealed{2, "a"}); ok || f != nil {
		t.Error("there is one that was not put")
	}
}

// R4, R5

// TestKeysApart: a list of keys is neither another one nor the cache's, spare room neither.
func TestKeysApart(t *testing.T) {
	c := made[int, int](t, 5)
	for k := range 5 {
		c.Put(k, k)
	}
	want := []int{4, 3, 2, 1, 0}
	var lists [][]int
	for range 3 {
		lists = append(lists, c.Keys())
	}
	for i, l := range lists {
		if !slices.Equal(l, want) {
			t.Errorf("list %d: %d", i, l)
		}
		spare := l[:cap(l)]
		for j := range spare {
			spare[j] = -9
		}
	}
	if l := c.Keys(); !slices.Equal(l, want) {
		t.Errorf("keys %d", l)
	}
	l := c.Keys()
	c.Put(7, 7)
	c.Drop(3)
	if !slices.Equal(l, want) {
		t.Errorf("a list of keys became %d", l)
	}
}

// TestCachesApart: each goes its own way.
func TestCachesApart(t *testing.T) {
	a, b := made[int, int](t, 2), made[int, int](t, 2)
	a.Put(1, 11)
	b.Put(2, 22)
	a.Put(3, 13)
	if gone, ok := b.Put(1, 21); gone != 0 || ok {
		t.Errorf("%d, %t", gone, ok)
	}
	a.Drop(1)
	if v, ok := b.Get(1); v != 21 || !ok || !slices.Equal(b.Keys(), []int{1, 2}) || !slices.Equal(a.Keys(), []int{3}) {
		t.Errorf("%d, %t, keys %d and %d", v, ok, a.Keys(), b.Keys())
	}
}

// big is a thing that has memory of its own.
type big struct {
	self  *big
	bytes [1000]byte
}

// putBig puts a new thing, and tells how it can be watched.
func putBig(c *cache.Cache[int, *big], k int) weak.Pointer[big] {
	b := &big{}
	c.Put(k, b)
	return weak.Make(b)
}

// TestForgets: what went, was dropped or put anew is not kept.
func TestForgets(t *testing.T) {
	c := made[int, *big](t, 3)
	gone, anew, dropped := putBig(c, 1), putBig(c, 2), putBig(c, 3)
	kept := []weak.Pointer[big]{putBig(c, 4), putBig(c, 2)}
	c.Drop(3)
	runtime.GC()
	for name, w := range map[string]weak.Pointer[big]{"went": gone, "was put anew": anew, "was dropped": dropped} {
		if w.Value() != nil {
			t.Errorf("what %s is still there", name)
		}
	}
	for i, w := range kept {
		if w.Value() == nil {
			t.Errorf("what is kept, number %d, is not there", i)
		}
	}
	runtime.KeepAlive(c)
}

// P4.3

// history are the uses of a cache's keys, the first one first, what was put last of each key, and which ones were dropped behind their last use.
type history struct {
	uses    []int
	put     map[int]int
	dropped map[int]bool
}

func (h *history) use(k int) {
	h.uses = append(h.uses, k)
	h.dropped[k] = false
}

// last are the last different keys that were used, as many as there is room for, but for those that were dropped.
func (h *history) last(room int) []int {
	var all, l []int
	for i := len(h.uses) - 1; i >= 0 && len(all) < room; i-- {
		k := h.uses[i]
		if slices.Contains(all, k) {
			continue
		}
		all = append(all, k)
		if !h.dropped[k] {
			l = append(l, k)
		}
	}
	return l
}

// TestLastAreThere: the last keys that were used are there, each with what was put last, and never more of them than there is room for.
func TestLastAreThere(t *testing.T) {
	chance := rand.New(rand.NewSource(43))
	for range 100 {
		room := 1 + chance.Intn(12)
		c, h := made[int, int](t, room), history{put: map[int]int{}, dropped: map[int]bool{}}
		for range 300 {
			x := some(chance, room+3)
			switch x.kind {
			case callGet:
				v, ok := c.Get(x.key)
				if ok {
					if v != h.put[x.key] {
						t.Fatalf("room %d: Get(%d): %d, put was %d", room, x.key, v, h.put[x.key])
					}
					h.use(x.key)
				}
			case callPut:
				c.Put(x.key, x.value)
				h.put[x.key] = x.value
				h.use(x.key)
			default:
				c.Drop(x.key)
				h.dropped[x.key] = true
			}
			l := c.Keys()
			if len(l) > room {
				t.Fatalf("room %d: %d things", room, len(l))
			}
			for _, k := range h.last(room) {
				if !slices.Contains(l, k) {
					t.Fatalf("room %d: %d is not there, of %d", room, k, l)
				}
			}
		}
		for _, k := range c.Keys() {
			if v, ok := c.Get(k); v != h.put[k] || !ok {
				t.Fatalf("room %d: Get(%d): %d, %t, put was %d", room, k, v, ok, h.put[k])
			}
		}
	}
}
