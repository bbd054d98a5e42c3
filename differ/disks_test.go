package differ_test

import (
	"strings"
	"testing"

	"stillage/api"
	"stillage/differ"
	"stillage/volume"
)

// again is a plan like another one, of what stands on clones of the disks; its volume has read little so far.
func (x shipped) again(t testing.TB, base string) shipped {
	t.Helper()
	p := x.p.mounted(t)
	plan, e := differ.New(p.v, base, x.head.Name)
	fine(t, e)
	return shipped{p, plan, x.head, x.records}
}

// holdsReads holds the records against what a clone of the volume reads, in the same order, and the sum against the first error of another clone's.
func (x shipped) holdsReads(t testing.TB, base string) (wrong int, sum api.Errno) {
	t.Helper()
	q, r := x.p.clone(), x.p.clone()
	for i, record := range x.records {
		b, _ := blockOf(record)
		_, want := q.v.Read(b.vbn)
		if want != api.OK {
			record = ""
			wrong++
		}
		if s, e := x.plan.Record(i); s != record || e != want {
			t.Fatalf("record %d of %s: %s, %d, not %s, %d", i, x.head.Name, short(s), e, short(record), want)
		}
		if sum == api.OK {
			sum = want
		}
	}
	want := sumOf(t, x.records)
	if sum != api.OK {
		want = ""
	}
	plan, e := differ.New(r.v, base, x.head.Name)
	fine(t, e)
	if s, e := plan.Sum(); s != want || e != sum {
		t.Fatalf("the sum of %s: %x, %d, not %x, %d", x.head.Name, s, e, want, sum)
	}
	return wrong, sum
}

// TestBadSectors: with a sector bad, many in turn, those records are refused whose blocks can't be read; when it can be read again they are told.
func TestBadSectors(t *testing.T) {
	p := long(t)
	for base, step := range map[string]int{"first": 3, "": 7} {
		x := p.plans(t, base, "long")
		bad := 0
		for n := 0; n < p.d.Sectors(); n += step {
			y := x.again(t, base)
			fine(t, y.p.d.Bad(n, true))
			wrong, sum := y.holdsReads(t, base)
			if wrong > 1 || sum != api.OK && sum != api.ErrIO || y.p.v.Dead() {
				t.Fatalf("sector %d: %d, %d", n, wrong, sum)
			}
			bad += wrong
			same(t, "the head", y.plan.Head(), x.head)
			y.over(t)
			fine(t, y.p.d.Bad(n, false))
			y.holds(t)
		}
		// Few of the blocks are kept in memory.
		if bad < 4*(x.head.Count-40)/step {
			t.Errorf("%d records could not be read", bad)
		}
	}
}

// TestOtherBytes: what a block's sum does not stand for is told as v.Read tells it; of several errors of a sum the first record's.
func TestOtherBytes(t *testing.T) {
	p := long(t)
	x := p.plans(t, "first", "long")
	at := func(i int) int {
		b, _ := blockOf(x.records[i])
		return b.vbn
	}
	for i := range x.records {
		for _, j := range []int{(i + 1) % len(x.records), (i + 40) % len(x.records)} {
			y := x.again(t, "first")
			fine(t, y.p.d.Write(4*at(i)+2, strings.Repeat("!", 64)), y.p.d.Bad(4*at(j)+3, true))
			y.holdsReads(t, "first")
		}
	}
	y := x.again(t, "first")
	last := len(x.records) - 1
	fine(t, y.p.d.Write(4*at(last), strings.Repeat("!", 64)))
	if s, e := y.plan.Record(last); s != "" || e != api.ErrBlockSum {
		t.Error(short(s), e)
	}
	if s, e := y.plan.Sum(); s != "" || e != api.ErrBlockSum {
		t.Error(short(s), e)
	}
	fine(t, y.p.d.Bad(4*at(last-1), true))
	if s, e := y.plan.Sum(); s != "" || e != api.ErrIO {
		t.Error(short(s), e)
	}
	if s, e := y.plan.Record(last); s != "" || e != api.ErrBlockSum {
		t.Error(short(s), e)
	}
}

// TestWithoutPower: what asks the disk is told ErrDead; what asks none goes on, and its errors are told ahead of that.
func TestWithoutPower(t *testing.T) {
	p := long(t)
	x := p.plans(t, "first", "long").again(t, "first")
	empty := p.clone().lines(t, "snap same").plans(t, "other", "same")
	fine(t, x.p.d.Crash(""), empty.p.d.Crash(""))
	// New asks no disk.
	if plan, e := differ.New(x.p.v, "first", "long"); plan == nil || e != api.OK || plan.Head() != x.head || x.p.v.Dead() {
		t.Fatal(e)
	}
	last := len(x.records) - 1
	x.over(t)
	if x.p.v.Dead() {
		t.Fatal("dead")
	}
	if s, e := x.plan.Record(last); s != "" || e != api.ErrDead || !x.p.v.Dead() {
		t.Error(short(s), e)
	}
	for range 2 {
		for i := range x.records {
			if s, e := x.plan.Record(i); s != "" || e != api.ErrDead {
				t.Error(short(s), e)
			}
		}
		if s, e := x.plan.Sum(); s != "" || e != api.ErrDead {
			t.Errorf("%x %d", s, e)
		}
		x.over(t)
		same(t, "the head", x.plan.Head(), x.head)
		// It is dead for good.
		x.p.d.Revive()
	}
	if plan, e := differ.New(x.p.v, "first", "long"); plan == nil || e != api.OK || plan.Head() != x.head {
		t.Error(e)
	}
	if plan, e := differ.New(x.p.v, "long", "first"); plan != nil || e != api.ErrDifferForm {
		t.Error(e)
	}
	x.p.mounted(t).news(t)
	// A plan of nothing asks no disk, either.
	empty.holds(t)
	if s, e := empty.plan.Sum(); len(s) != 8 || e != api.OK || empty.p.v.Dead() {
		t.Errorf("%x %d", s, e)
	}
}

// TestGoneWithoutPower: that the target is gone is told ahead of the power, and asks no disk.
func TestGoneWithoutPower(t *testing.T) {
	p := long(t).mounted(t)
	x := p.plans(t, "first", "long")
	y := p.plans(t, "one", "short")
	p.lines(t, "unsnap long")
	fine(t, p.d.Crash(""))
	x.holds(t)
	if p.v.Dead() {
		t.Fatal("dead")
	}
	if e := p.does(t, "snap more"); e != api.ErrDead || !p.v.Dead() {
		t.Fatal(e)
	}
	x.holds(t)
	if s, e := y.plan.Record(0); s != "" || e != api.ErrDead {
		t.Error(short(s), e)
	}
	if s, e := y.plan.Sum(); s != "" || e != api.ErrDead {
		t.Errorf("%x %d", s, e)
	}
	y.over(t)
}

// TestWithoutTheLogsPower: records are read all the same.
func TestWithoutTheLogsPower(t *testing.T) {
	p := three(t)
	l := p.news(t)
	fine(t, p.nv.Crash(""))
	for _, x := range l {
		x.holds(t)
	}
	p.news(t)
	if e := p.does(t, "make /late"); e != api.ErrDead {
		t.Fatal(e)
	}
	for _, x := range l {
		x.holds(t)
	}
}

// TestCrashByCrash: wherever the power goes, what is mounted then ships of each snapshot what was shipped of it.
func TestCrashByCrash(t *testing.T) {
	start := newPair(t, 80, "make /a", write("/a", 0, all(400, 1)), "snap a", write("/a", 100, all(300, 2)), "snap b", write("/a", 0, "now"))
	for _, line := range []string{"snap c", "unsnap a", "point", write("/a", 0, "later")} {
		for which := range 2 {
			for step, went := 1, true; went; step++ {
				for _, keep := range []string{"", "\x01", "\xaa\xaa\xaa\xaa\xaa\xaa", strings.Repeat("\xff", 64)} {
					p := start.clone()
					l := p.news(t)
					if which == 0 {
						fine(t, p.d.Arm(step, keep))
					} else {
						fine(t, p.nv.Arm(step, keep))
					}
					if went = p.does(t, line) != api.OK; !went {
						break
					}
					p.d.Revive()
					p.nv.Revive()
					v, e := volume.Mount(p.d, p.nv)
					fine(t, e)
					q := &pair{v: v, d: p.d, nv: p.nv}
					for _, y := range v.Snaps() {
						x, ok := start.at(y.Name)
						if !ok {
							// The one in which the power went.
							fine(t, q.does(t, "unsnap "+y.Name))
							continue
						}
						q.pasts = append(q.pasts, x)
					}
					for _, x := range q.news(t) {
						for _, y := range l {
							if y.head == x.head {
								same(t, "the records", x.records, y.records)
							}
						}
					}
				}
			}
		}
	}
}
