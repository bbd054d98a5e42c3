package differ_test

import (
	"encoding/hex"
	"fmt"
	"math/rand"
	"runtime"
	"slices"
	"strings"
	"testing"

	"stillage/api"
	"stillage/differ"
	"stillage/snaps"
)

// three is a volume with the snapshots a, b and c.
func three(t testing.TB) *pair {
	t.Helper()
	return newPair(t, 100,
		"make /a", write("/a", 0, all(500, 1)), "snap a", "make /b", write("/a", 300, all(512, 2)), "snap b", "remove /b", "cut /a 200", "snap c", write("/a", 0, "now"),
	)
}

// turned is a volume whose snapshots stand in another order by their numbers than by their names and by their planes.
func turned(t testing.TB) *pair {
	t.Helper()
	p := newPair(t, 200, "make /a")
	for i, s := range []string{"snap d", "snap x", "snap b", "snap y", "unsnap x", "snap a", "unsnap d", "snap c", "unsnap y", "snap 0"} {
		p.lines(t, write("/a", 0, all(500, i)), s)
	}
	same(t, "the names", p.names(), []string{"b", "a", "c", "0"})
	return p
}

// long is a volume with snapshots of a file of pointer blocks, and of more blocks than are kept in memory.
func long(t testing.TB) *pair {
	t.Helper()
	p := newPair(t, 400, "make /a", "snap first")
	for at := 0; at < 16384; at += 512 {
		p.lines(t, write("/a", at, all(512, at/512)))
	}
	return p.lines(t, "snap long", write("/a", 8000, "!"), "snap one", "cut /a 100", "snap short", "dir /d", "make /d/e", write("/d/e", 0, all(400, 9)), "snap other")
}

// seven is a volume with as many snapshots as there may be.
func seven(t testing.TB) *pair {
	t.Helper()
	p := newPair(t, 300, "make /a")
	for i := range 7 {
		p.lines(t, write("/a", 100*i, all(400, i)), fmt.Sprint("make /n", i), fmt.Sprint("snap s", i))
	}
	return p
}

// P19.2, P19.3

// TestPlanExamples are those of the document, and of a chapter's words a few.
func TestPlanExamples(t *testing.T) {
	p := three(t)
	plan, e := differ.New(p.v, "", "a")
	fine(t, e)
	x, _ := p.at("a")
	if h := plan.Head(); h.Count != len(x.blocks) || h.Drop != "" || h.Base != 0 || h.Id != 1 || h.Name != "a" {
		t.Error(show(h))
	}
	plan, e = differ.New(p.v, "a", "c")
	fine(t, e)
	add, take, e := snaps.Diff(p.v, "a", "c")
	fine(t, e)
	same(t, "the head", plan.Head(), api.Head{Id: 3, Base: 1, Name: "c", Table: p.v.Snaps()[2].Table, Count: len(listOf(add)), Drop: take})
	for i, vbn := range listOf(add) {
		payload, e := p.v.Read(vbn)
		fine(t, e)
		if s, e := plan.Record(i); s != laidBlock(block{vbn, payload}) || e != api.OK {
			t.Errorf("record %d: %s, %d", i, short(s), e)
		}
	}
}

// TestKnownPlan: records laid by hand, with a sum that OpenSSL told.
func TestKnownPlan(t *testing.T) {
	p := newPair(t, 64, "make /a", "write /a 0 6162", "snap s", "snap t")
	plan, e := differ.New(p.v, "", "s")
	fine(t, e)
	// The root's entries, the file's bytes, the table with both; Format's point has the blocks 1 to 4.
	known := []string{"05" + "04" + "01016102", "06" + "02" + "6162", "07" + "0b" + "02" + "0101010504" + "0200010602"}
	for i, want := range known {
		if s, e := plan.Record(i); hex.EncodeToString([]byte(s)) != want || e != api.OK {
			t.Errorf("record %d: %x, %d", i, s, e)
		}
	}
	same(t, "the head", plan.Head(), api.Head{Id: 1, Name: "s", Table: api.Blob{Root: 7, Size: 11}, Count: 3})
	if s, e := plan.Sum(); hex.EncodeToString([]byte(s)) != "dfe6f2fd8c0c1100" || e != api.OK {
		t.Errorf("the sum: %x, %d", s, e)
	}
	// Of two snapshots of one tree nothing is shipped.
	plan, e = differ.New(p.v, "s", "t")
	fine(t, e)
	same(t, "the head", plan.Head(), api.Head{Id: 2, Base: 1, Name: "t", Table: api.Blob{Root: 7, Size: 11}})
	if s, e := plan.Sum(); hex.EncodeToString([]byte(s)) != "1da9b5370c35a262" || e != api.OK {
		t.Errorf("the sum of nothing: %x, %d", s, e)
	}
}

// TestPlans: all pairs of snapshots of some volumes, of the same ones mounted anew, and of such as have no snapshots.
func TestPlans(t *testing.T) {
	many := 0
	for _, p := range []*pair{three(t), turned(t), long(t), seven(t), newPair(t, 32), newPair(t, 32, "snap a"), newPair(t, 32, "snap b", "snap a")} {
		for _, x := range p.news(t) {
			many++
			x.holds(t)
		}
		p.mounted(t).news(t)
	}
	if many != 6+10+15+28+0+1+3 {
		t.Errorf("%d plans", many)
	}
}

// TestPlanOfALongFile: a byte more is a block of the file's, those that point to it, and the table.
func TestPlanOfALongFile(t *testing.T) {
	p := long(t)
	for _, x := range []struct {
		base, target string
		count, drop  int
	}{
		// 69 chunks, their pointer blocks and the root, the root's entries, the table.
		{"", "long", 69 + 3 + 2, 0}, {"first", "long", 69 + 3 + 1, 1}, {"long", "one", 4, 4}, {"one", "short", 2, 69 + 3 + 1}, {"long", "short", 2, 69 + 3 + 1},
	} {
		plan, e := differ.New(p.v, x.base, x.target)
		fine(t, e)
		if h := plan.Head(); h.Count != x.count || len(listOf(h.Drop)) != x.drop {
			t.Errorf("%q, %q: %d, %d", x.base, x.target, h.Count, len(listOf(h.Drop)))
		}
	}
}

// TestWrongNames: what is no name is told ahead of what is not there, and that ahead of a base that is not below the target.
func TestWrongNames(t *testing.T) {
	p := turned(t)
	for _, x := range []struct {
		base, target string
		want         api.Errno
	}{
		{"", "", api.ErrSnapName}, {"b", "", api.ErrSnapName}, {"A", "b", api.ErrSnapName}, {"b", "A", api.ErrSnapName}, {"..", "never", api.ErrSnapName}, {"never", ".", api.ErrSnapName}, {strings.Repeat("a", 17), "b", api.ErrSnapName},
		{"never", "b", api.ErrSnapNone}, {"b", "never", api.ErrSnapNone}, {"never", "never", api.ErrSnapNone}, {"", "never", api.ErrSnapNone}, {"d", "0", api.ErrSnapNone}, {"x", "b", api.ErrSnapNone},
		{"b", "b", api.ErrDifferForm}, {"a", "b", api.ErrDifferForm}, {"0", "c", api.ErrDifferForm}, {"0", "b", api.ErrDifferForm}, {"0", "0", api.ErrDifferForm}, {"c", "a", api.ErrDifferForm},
		{"b", "a", api.OK}, {"b", "0", api.OK}, {"a", "c", api.OK}, {"c", "0", api.OK}, {"", "b", api.OK}, {"", "0", api.OK},
	} {
		plan, e := differ.New(p.v, x.base, x.target)
		if e != x.want || (plan == nil) != (e != api.OK) {
			t.Errorf("%q, %q: %d, not %d", x.base, x.target, e, x.want)
		}
	}
	for _, name := range names() {
		if name == "" {
			continue
		}
		want := api.ErrSnapName
		if _, ok := p.at(name); ok {
			want = api.OK
		} else if isName(name) {
			want = api.ErrSnapNone
		}
		if plan, e := differ.New(p.v, "", name); e != want || (plan == nil) != (e != api.OK) {
			t.Errorf("%.20q: %d, not %d", name, e, want)
		}
		if want == api.OK {
			want = api.ErrDifferForm
		}
		if plan, e := differ.New(p.v, name, "b"); plan != nil || e != want {
			t.Errorf("over %.20q: %d, not %d", name, e, want)
		}
	}
}

// TestTargetGone: without the target there are no records, also if another snapshot has its name, its plane and its blocks; without the base there are.
func TestTargetGone(t *testing.T) {
	p := three(t)
	all := p.news(t)
	holds := func() {
		t.Helper()
		for _, x := range all {
			x.holds(t)
		}
	}
	p.lines(t, "unsnap a")
	holds()
	p.lines(t, "snap a")
	holds()
	p.lines(t, "unsnap c")
	holds()
	p.lines(t, "snap c")
	holds()
	all = append(all, p.news(t)...)
	holds()
	p.lines(t, "unsnap b", "point")
	holds()

	p = newPair(t, 64, "make /a", "snap s")
	x := p.plans(t, "", "s")
	was := p.v.Snaps()[0]
	p.lines(t, "unsnap s", "snap s")
	now := p.v.Snaps()[0]
	if now.Name != was.Name || now.Plane != was.Plane || now.Id == was.Id {
		t.Fatal(show(was), show(now))
	}
	x.holds(t)
	if s, e := x.plan.Record(0); s != "" || e != api.ErrSnapNone {
		t.Error(short(s), e)
	}
	if s, e := x.plan.Sum(); s != "" || e != api.ErrSnapNone {
		t.Error(short(s), e)
	}
	// What is not one of the records is told ahead of that.
	x.over(t)
	p.plans(t, "", "s")
}

// TestNothingShipped: a plan of no records has a sum, also without its target.
func TestNothingShipped(t *testing.T) {
	p := newPair(t, 64, "make /a", "snap a", "snap b", "make /b", "snap c", "remove /b", "snap d")
	x := p.plans(t, "a", "b")
	same(t, "the head", x.plan.Head(), api.Head{Id: 2, Base: 1, Name: "b", Table: p.v.Snaps()[0].Table})
	p.lines(t, "unsnap b")
	x.holds(t)
	// Dropped blocks are no records.
	y := p.plans(t, "c", "d")
	if h := y.plan.Head(); h.Count == 0 || h.Drop == "" {
		t.Error(show(h))
	}
}

// P19.4

// TestPlansOutlive: plans of all pairs, whatever is done on the volume then.
func TestPlansOutlive(t *testing.T) {
	over, gone := 0, 0
	for seed := range 25 {
		chance := rand.New(rand.NewSource(int64(seed)))
		p := newPair(t, 60+chance.Intn(200))
		var all []shipped
		for range 60 {
			p.does(t, p.byChance(chance))
			if chance.Intn(8) == 0 {
				all = append(all, p.news(t)...)
			}
			if chance.Intn(30) == 0 {
				// The plans go on with the volume of which they are.
				p = p.mounted(t)
			}
			chance.Shuffle(len(all), func(i, j int) { all[i], all[j] = all[j], all[i] })
			all = all[:min(len(all), 12)]
			for _, x := range all {
				x.holds(t)
				if _, e := x.plan.Sum(); e != api.OK {
					gone++
				} else if x.head.Base > 0 && x.head.Count > 0 {
					over++
				}
			}
		}
		p.news(t)
	}
	if over < 1000 || gone < 1000 {
		t.Errorf("%d were there, %d gone", over, gone)
	}
}

// TestFullVolume: blocks that are free go round, and are written again and again; those that are shipped are not.
func TestFullVolume(t *testing.T) {
	p := newPair(t, 64, "make /a", write("/a", 0, all(500, 1)), "snap a", write("/a", 0, all(500, 2)), "snap b", "remove /a")
	l := p.news(t)
	for i := range 60 {
		p.does(t, fmt.Sprint("make /f", i%5))
		p.does(t, write(fmt.Sprint("/f", i%5), 0, all(100+i, i)))
		p.does(t, "point")
		for _, x := range l {
			x.holds(t)
		}
	}
	if p.v.Number() < 60 {
		t.Errorf("%d points", p.v.Number())
	}
}

func FuzzPlans(f *testing.F) {
	f.Add([]byte("\x00\x10\x20\x30\x40\x50\x60\x70\x80"))
	f.Add([]byte("make snapshots, and ship them"))
	f.Fuzz(func(t *testing.T, row []byte) {
		p := newPair(t, 80)
		var all []shipped
		for i, b := range row[:min(len(row), 50)] {
			p.does(t, p.byChance(rand.New(rand.NewSource(int64(b)*256+int64(i%5)))))
			if b%8 == 7 {
				all = append(all, p.news(t)...)
				all = all[max(0, len(all)-12):]
			}
			for _, x := range all {
				x.holds(t)
			}
		}
		p.news(t)
	})
}

// The rules that hold everywhere

// TestAskingChangesNothing (R2): neither what is told nor what is refused.
func TestAskingChangesNothing(t *testing.T) {
	for _, p := range []*pair{three(t), long(t)} {
		p.lines(t, "make /more")
		q := p.clone()
		for range 2 {
			for _, x := range p.news(t) {
				x.holds(t)
			}
		}
		p.like(t, q)
		p.mounted(t).news(t)
	}
}

// TestMemoryOfNames (R4): nothing of a name that is handed in is kept.
func TestMemoryOfNames(t *testing.T) {
	p := three(t)
	base, spoilBase := lent("a")
	target, spoilTarget := lent("b")
	plan, e := differ.New(p.v, base, target)
	fine(t, e)
	h := plan.Head()
	if within(h.Name, target) {
		t.Error("the name is that which was handed in")
	}
	spoilBase()
	spoilTarget()
	x := p.plans(t, "a", "b")
	x.plan = plan
	x.holds(t)
	same(t, "the head", h, x.head)
}

// TestHeadIsACopy: what is done with a head that was answered is not seen.
func TestHeadIsACopy(t *testing.T) {
	p := three(t)
	x := p.plans(t, "a", "c")
	h := x.plan.Head()
	h.Id, h.Base, h.Name, h.Table, h.Count, h.Drop = 9, 8, "other", api.Blob{}, 0, ""
	x.holds(t)
}

// TestClones (R7): a plan is of its own volume, not of a clone of that.
func TestClones(t *testing.T) {
	p := three(t)
	l := p.news(t)
	q := p.clone()
	m := q.news(t)
	q.lines(t, "unsnap b", "remove /a", "point", "point", "snap d")
	for _, x := range append(l, m...) {
		x.holds(t)
	}
	p.lines(t, "unsnap c", "point", "snap e")
	for _, x := range append(l, m...) {
		x.holds(t)
	}
	if p.v.Dead() || q.v.Dead() {
		t.Error("a volume is dead")
	}
}

// TestKeepsLittle: not the texts of which the names are a part.
func TestKeepsLittle(t *testing.T) {
	p := three(t)
	taken := func() uint64 {
		var m runtime.MemStats
		runtime.GC()
		runtime.ReadMemStats(&m)
		return m.HeapAlloc
	}
	ahead := taken()
	var l []*differ.Plan
	for range 40 {
		names := strings.Repeat("ab", 1<<18)
		plan, e := differ.New(p.v, names[:1], names[1:2])
		fine(t, e)
		l = append(l, plan)
	}
	if now := taken(); now > ahead+4<<20 {
		t.Errorf("%d bytes more", now-ahead)
	}
	want := slices.Repeat([]api.Head{l[0].Head()}, 40)
	for i, plan := range l {
		same(t, "the head", plan.Head(), want[i])
	}
}
