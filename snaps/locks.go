package snaps

import (
	"maps"
	"slices"
	"strings"

	"stillage/api"
	"stillage/tables"
)

// Locks are names that must stay.
type Locks struct {
	times map[string]int // how often each name is locked that is
}

// New has none.
func New() *Locks { return &Locks{times: map[string]int{}} }

// Lock locks a name once more.
func (l *Locks) Lock(name string) api.Errno {
	if !tables.Name(name) {
		return api.ErrSnapName
	}
	l.add(name, 1)
	return api.OK
}

// Unlock locks a name once less.
func (l *Locks) Unlock(name string) api.Errno {
	if !tables.Name(name) {
		return api.ErrSnapName
	}
	if !l.Has(name) {
		return api.ErrSnapNone
	}
	l.add(name, -1)
	return api.OK
}

// Has tells whether a name is locked.
func (l *Locks) Has(name string) bool { return l.times[name] > 0 }

// List are all that are locked.
func (l *Locks) List() []string { return slices.Sorted(maps.Keys(l.times)) }

// add locks a name so many times more.
func (l *Locks) add(name string, more int) {
	times := l.times[name] + more
	if times == 0 {
		delete(l.times, name)
		return
	}
	// Memory of its own, also for a name that is there, as the map takes the newer text: it may be a piece of a long one.
	l.times[strings.Clone(name)] = times
}
