package differ

import (
	"slices"

	"stillage/api"
	"stillage/digest"
	"stillage/sets"
	"stillage/snaps"
	"stillage/volume"
)

const key = "stillage stream!"

// Plan is what is shipped.
type Plan struct {
	v      *volume.Volume
	head   api.Head
	blocks []int // those that are shipped, rising
}

// New is that of a snapshot, over a base (or none).
func New(v *volume.Volume, base, target string) (*Plan, api.Errno) {
	add, take, e := snaps.Diff(v, base, target)
	if e != api.OK {
		return nil, e
	}
	// Both are there; an empty base is none, and has the number 0.
	old, now := named(v, base), named(v, target)
	if old.Id >= now.Id {
		return nil, api.ErrDifferForm
	}
	blocks := sets.List(add)
	head := api.Head{Id: now.Id, Base: old.Id, Name: now.Name, Table: now.Table, Count: len(blocks), Drop: take}
	return &Plan{v, head, blocks}, api.OK
}

// Head is its head.
func (p *Plan) Head() api.Head { return p.head }

// Record is one of its records.
func (p *Plan) Record(i int) (string, api.Errno) {
	if !within(i, 0, len(p.blocks)-1) {
		return "", api.ErrDifferOver
	}
	if !p.isThere() {
		return "", api.ErrSnapNone
	}
	payload, e := p.v.Read(p.blocks[i])
	if e != api.OK {
		return "", e
	}
	return Record(p.blocks[i], payload)
}

// Sum is that of all records.
func (p *Plan) Sum() (string, api.Errno) {
	// The key has as many bytes as it must: there is no error.
	h, _ := digest.New(key)
	for i := range p.blocks {
		s, e := p.Record(i)
		if e != api.OK {
			return "", e
		}
		h.Write(s)
	}
	return h.Sum(), api.OK
}

// isThere tells whether the volume still has the target: as long as it has, the target's blocks are not written.
func (p *Plan) isThere() bool {
	// Another snapshot may have its name by now, but never its number.
	return slices.ContainsFunc(p.v.Snaps(), func(x api.Snap) bool { return x.Id == p.head.Id })
}

// named is the snapshot of a name, a zero one, if there is none.
func named(v *volume.Volume, name string) api.Snap {
	for _, x := range v.Snaps() {
		if x.Name == name {
			return x
		}
	}
	return api.Snap{}
}
