package wal

import (
	"fieldfare/api"
	"fieldfare/dev"
)

// first is the ring's first sector: the slots have those ahead of it.
const first = 2

// ring is the bytes of a log's sectors; behind the last one comes the first.
type ring struct {
	d    *dev.Dev
	size int // how many bytes there are
}

// ringOf gives the ring of a device.
func ringOf(d *dev.Dev) ring {
	return ring{d: d, size: max(d.Sectors()/2-first, 0) * api.Sector}
}

// write puts bytes into the ring. A sector is written whole, so what else stands in it is written as it was: a record that lasts there is not touched by a crash.
func (r ring) write(at int, b []byte) api.Errno {
	for len(b) > 0 {
		i, from := place(at)
		s, e := r.d.Read(i)
		if e != api.OK {
			return e
		}
		n := copy(s[from:], b)
		if e := r.d.Write(i, s); e != api.OK {
			return e
		}
		b, at = b[n:], (at+n)%r.size
	}
	return api.OK
}

// read gives some bytes of the ring, at most all of them.
func (r ring) read(at, count int) ([]byte, api.Errno) {
	b := make([]byte, count)
	for rest := b; len(rest) > 0; {
		i, from := place(at)
		s, e := r.d.Read(i)
		if e != api.OK {
			return nil, e
		}
		n := copy(rest, s[from:])
		rest, at = rest[n:], (at+n)%r.size
	}
	return b, api.OK
}

// place tells in which sector a byte of the ring is, and where in it.
func place(at int) (sector, from int) {
	return first + at/api.Sector, at % api.Sector
}

// mark is what the slots keep of a log.
type mark struct {
	start, size  int // where in the ring its bytes begin, how many they are
	area, length int64
}

// end tells where in a ring of such a size the next record goes.
func (m mark) end(size int) int {
	return (m.start + m.size) % size
}

// numbers gives a mark as the slots keep it.
func (m mark) numbers() []int64 {
	return []int64{int64(m.start), int64(m.size), m.area, m.length}
}

// markOf gives the mark that numbers are, unless they are none of a log whose ring has such a size.
func markOf(ns []int64, size int) (mark, bool) {
	if len(ns) != len(mark{}.numbers()) {
		return mark{}, false
	}
	m := mark{start: int(ns[0]), size: int(ns[1]), area: ns[2], length: ns[3]}
	if m.start < 0 || m.start >= size || m.size < 0 || m.size > size {
		return mark{}, false
	}
	return m, true
}
