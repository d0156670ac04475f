// Package dev: a device: see doc/01-dev.md.
package dev

import (
	"maps"
	"slices"

	"fieldfare/api"
)

// How many sectors a device may have.
const (
	fewest = 64
	most   = 4096
)

// sector is an array, so that an assignment copies it.
type sector [api.Sector]byte

// Dev is a device: sectors, those of which that are loose, and a fuse.
type Dev struct {
	now  []sector
	was  map[int]sector // of the loose ones alone: what a crash may bring back
	left int            // Writes and Flushes until it is down; 0: there is no fuse
	down bool
}

// New gives a device of n sectors of noughts, or nil if there may be none of that many.
func New(n int) *Dev {
	if n < fewest || n > most {
		return nil
	}
	return holding(make([]sector, n))
}

// holding gives a device that is not down, has no fuse, and of which nothing is loose.
func holding(now []sector) *Dev {
	return &Dev{now: now, was: map[int]sector{}}
}

// Sectors tells how many there are.
func (d *Dev) Sectors() int {
	if d == nil {
		return 0
	}
	return len(d.now)
}

// Read gives a copy of a sector, also while the device is down.
func (d *Dev) Read(i int) ([]byte, api.Errno) {
	if d == nil {
		return nil, api.ErrDown
	}
	if !d.has(i) {
		return nil, api.ErrRange
	}
	return slices.Clone(d.now[i][:]), api.OK
}

// Write puts b into a sector, which is loose until the next Flush.
func (d *Dev) Write(i int, b []byte) api.Errno {
	switch {
	case d.Down():
		return api.ErrDown
	case !d.has(i):
		return api.ErrRange
	case len(b) != api.Sector:
		return api.ErrForm
	}
	// Of a sector that is written twice a crash brings back what was flushed, not the first Write.
	if _, loose := d.was[i]; !loose {
		d.was[i] = d.now[i]
	}
	d.now[i] = sector(b)
	d.burn()
	return api.OK
}

// Flush makes all that is loose last.
func (d *Dev) Flush() api.Errno {
	if d.Down() {
		return api.ErrDown
	}
	d.was = map[int]sector{}
	d.burn()
	return api.OK
}

// Fuse lets n more Writes and Flushes be done, and no others behind them.
func (d *Dev) Fuse(n int) {
	if d.Down() {
		return
	}
	d.left = max(n, 0)
	d.down = n <= 0
}

// Down tells whether Writes and Flushes are over for good.
func (d *Dev) Down() bool {
	return d == nil || d.down
}

// Loose tells which sectors a crash may take back, rising.
func (d *Dev) Loose() []int {
	if d == nil {
		return nil
	}
	return slices.Sorted(maps.Keys(d.was))
}

// Crash gives the device that is there when power comes back; keep says of each of Loose whether it stayed.
func (d *Dev) Crash(keep ...bool) *Dev {
	if d == nil {
		return nil
	}
	c := holding(slices.Clone(d.now))
	for k, i := range d.Loose() {
		if k >= len(keep) || !keep[k] {
			c.now[i] = d.was[i]
		}
	}
	return c
}

// has tells whether there is such a sector.
func (d *Dev) has(i int) bool {
	return i >= 0 && i < len(d.now)
}

// burn counts a call that was done.
func (d *Dev) burn() {
	if d.left == 0 {
		return
	}
	d.left--
	d.down = d.left == 0
}
