package snap_test

import (
	"bytes"
	"fmt"
	"math"
	"math/rand/v2"
	"testing"

	"fieldfare/api"
	"fieldfare/dev"
	"fieldfare/snap"
	"fieldfare/wal"
)

// state is what a device should hold: a text, where it is, and how many records the log has behind it.
type state struct {
	area    int64
	text    []byte
	records int
}

// line is the same for equal states alone.
func (s state) line() string {
	return fmt.Sprintf("area %d, %d records, %d bytes: %q", s.area, s.records, len(s.text), s.text)
}

// told gives what a device holds, as a state's line or an error's.
func told(d *dev.Dev) string {
	l, records, e := wal.Open(d)
	if e != api.OK {
		return "log: " + e.Error()
	}
	text, e := snap.Get(d, l)
	if e != api.OK {
		return "text: " + e.Error()
	}
	area, length := l.Area()
	if int(length) != len(text) {
		return fmt.Sprint("a length of ", length, " and a text of ", len(text))
	}
	return state{area, text, len(records)}.line()
}

// wantState holds a device, each crash of it, and what its log gives, against what they should be.
func wantState(t *testing.T, of string, d *dev.Dev, l *wal.Log, want state) {
	t.Helper()
	for _, c := range []*dev.Dev{d, d.Crash(), d.Crash(true, true, true)} {
		if got := told(c); got != want.line() {
			t.Fatalf("P6.1: %s: %s, not %s", of, got, want.line())
		}
	}
	if len(d.Loose()) != 0 {
		t.Errorf("P6.1: %s leaves %v loose", of, d.Loose())
	}
	wantText(t, of, d, l, want.text)
}

// wantText holds what Get gives against a text.
func wantText(t *testing.T, of string, d *dev.Dev, l *wal.Log, want []byte) {
	t.Helper()
	if got, e := snap.Get(d, l); e != api.OK || !bytes.Equal(got, want) {
		t.Fatalf("P6.1: %s: Get %q, %v, not %q", of, got, e, want)
	}
}

// wantErr holds what a call told against what it should.
func wantErr(t *testing.T, call string, got, want api.Errno) {
	t.Helper()
	if got != want {
		t.Errorf("P6.1: %s: %v, not %v", call, got, want)
	}
}

// wantNone holds Get against an error without a text.
func wantNone(t *testing.T, of string, d *dev.Dev, l *wal.Log, want api.Errno) {
	t.Helper()
	if text, e := snap.Get(d, l); len(text) != 0 || e != want {
		t.Errorf("P6.1: Get of %s: %q, %v, not %v", of, text, e, want)
	}
}

// made gives a device with an empty log.
func made(t *testing.T, sectors int) (*dev.Dev, *wal.Log) {
	t.Helper()
	d := dev.New(sectors)
	l, e := wal.Make(d)
	if e != api.OK {
		t.Fatalf("Make on %d sectors: %v", sectors, e)
	}
	return d, l
}

// some gives n bytes that begin with x; no sector of them is another one.
func some(n int, x byte) []byte {
	b := make([]byte, n)
	for k := range b {
		b[k] = x + byte(7*k) + byte(k/64)
	}
	return b
}

// filled gives a sector of one byte.
func filled(x byte) []byte { return bytes.Repeat([]byte{x}, api.Sector) }

// whole gives all sectors of a device, one behind the other.
func whole(d *dev.Dev) []byte {
	var all []byte
	for i := range d.Sectors() {
		b, _ := d.Read(i)
		all = append(all, b...)
	}
	return all
}

// next gives the area in which the text behind one of that area is.
func next(area int64) int64 {
	return map[int64]int64{0: 1, 1: 2, 2: 1}[area]
}

func TestMost(t *testing.T) {
	for _, x := range []struct{ sectors, most int }{{64, 1024}, {65, 1024}, {66, 1024}, {67, 1024}, {68, 1088}, {127, 31 * 64}, {4095, 1023 * 64}, {4096, 1024 * 64}} {
		if got := snap.Most(dev.New(x.sectors)); got != x.most {
			t.Errorf("P6.1: Most of %d sectors: %d, not %d", x.sectors, got, x.most)
		}
	}
	if got := snap.Most(nil); got != 0 {
		t.Errorf("P6.1: Most of nil: %d", got)
	}
	if got := snap.Most(&dev.Dev{}); got != 0 {
		t.Errorf("P6.1: Most of no sectors: %d", got)
	}
}

func TestNothingPut(t *testing.T) {
	d, l := made(t, 64)
	wantState(t, "Make", d, l, state{})
	l.Append([]byte("x"))
	wantState(t, "Append", d, l, state{records: 1})
}

// TestOneBehindTheOther puts texts of each length into the two areas in turn, and the log goes on behind each.
func TestOneBehindTheOther(t *testing.T) {
	for _, sectors := range []int{64, 65, 66, 67, 68, 131} {
		d, l := made(t, sectors)
		most := snap.Most(d)
		var want state
		for k, n := range []int{10, most, most, 0, 0, 1, 63, 64, 65, 127, 128, 129, most - 1, 1, most, 500, most - 63, most - 64, most - 65, 0, most, 3} {
			for range k % 3 {
				wantErr(t, "Append", l.Append([]byte("x")), api.OK)
				want.records++
			}
			wantState(t, "Append", d, l, want)
			text := some(n, byte(k))
			of := fmt.Sprint("Put of ", n, " on ", sectors, " sectors")
			wantErr(t, of, snap.Put(d, l, text), api.OK)
			want = state{next(want.area), text, 0}
			wantState(t, of, d, l, want)
			if room := (sectors/2 - 2) * 64; l.Room() != room {
				t.Errorf("P6.1: %s: Room %d, not %d", of, l.Room(), room)
			}
		}
	}
}

// TestTooLarge: nothing is changed by it, on a device that is down neither.
func TestTooLarge(t *testing.T) {
	for _, sectors := range []int{64, 67, 4096} {
		d, l := made(t, sectors)
		most := snap.Most(d)
		for area := range 3 {
			l.Append([]byte("x"))
			was, all := told(d), whole(d)
			d.Fuse(50000)
			for _, n := range []int{most + 1, most + 64, 2 * most, 3*most + 5} {
				wantErr(t, fmt.Sprint("Put of ", n, " in ", most), snap.Put(d, l, some(n, 1)), api.ErrLarge)
			}
			if told(d) != was || !bytes.Equal(whole(d), all) || len(d.Loose()) != 0 {
				t.Errorf("P6.1: a text too large changes area %d", area)
			}
			wantErr(t, "Put of Most", snap.Put(d, l, some(most, 2)), api.OK)
			wantText(t, "Put of Most", d, l, some(most, 2))
		}
		d.Fuse(0)
		wantErr(t, "Put while it is down", snap.Put(d, l, some(most+1, 1)), api.ErrLarge)
	}
}

// TestOtherSectorsStay: a text is written into its area alone, and the log into the slots.
func TestOtherSectorsStay(t *testing.T) {
	for _, sectors := range []int{64, 65, 66, 67, 131} {
		half, quarter := sectors/2, sectors/4
		d := dev.New(sectors)
		for i := range sectors {
			d.Write(i, filled(200))
		}
		l, _ := wal.Make(d)
		for k, x := range []struct{ from, to int }{{half, half + quarter}, {half + quarter, half + 2*quarter}, {half, half + quarter}} {
			was := whole(d)
			wantErr(t, "Put", snap.Put(d, l, some(snap.Most(d), byte(k))), api.OK)
			now := whole(d)
			for i := 2; i < sectors; i++ {
				same := bytes.Equal(was[64*i:64*i+64], now[64*i:64*i+64])
				if inside := i >= x.from && i < x.to; same == inside {
					t.Errorf("P6.1: %d sectors, area from %d to %d: the sector %d: same: %v", sectors, x.from, x.to, i, same)
				}
			}
		}
	}
}

func TestLengthsAndAreasThatAreNone(t *testing.T) {
	for _, sectors := range []int{64, 67, 4096} {
		d, l := made(t, sectors)
		most := int64(snap.Most(d))
		for _, x := range [][2]int64{{3, 5}, {-1, 5}, {4, 0}, {-2, 0}, {math.MaxInt64, 0}, {math.MinInt64, 1}, {1 << 32, 1}, {1<<32 + 1, 1}, {1<<8 + 2, 1}, {3, -1}, {3, most + 1},
			{1, -1}, {2, -1}, {1, most + 1}, {2, most + 1}, {1, math.MaxInt64}, {2, math.MaxInt64}, {1, math.MinInt64}, {2, math.MinInt64}, {1, 1 << 32}, {2, 1<<32 + 1}} {
			l.Reset(x[0], x[1])
			wantNone(t, fmt.Sprint(x), d, l, api.ErrCorrupt)
		}
		for _, length := range []int64{0, 99, -1, most + 1, math.MaxInt64, math.MinInt64} {
			l.Reset(0, length)
			wantNone(t, fmt.Sprint("no area, length ", length), d, l, api.OK)
		}
		for area := range int64(2) {
			for _, length := range []int64{0, 1, most} {
				l.Reset(area+1, length)
				wantText(t, "noughts", d, l, make([]byte, length))
			}
		}
	}
}

// TestPutWhereTheAreaIsNone: such an area is not 1, so that the next one is.
func TestPutWhereTheAreaIsNone(t *testing.T) {
	for _, area := range []int64{3, 4, -1, math.MaxInt64, math.MinInt64, 1<<32 + 1} {
		d, l := made(t, 64)
		l.Reset(area, 7)
		wantErr(t, "Put", snap.Put(d, l, some(70, 1)), api.OK)
		wantState(t, "Put", d, l, state{area: 1, text: some(70, 1)})
	}
	// A length that is none is in nobody's way.
	d, l := made(t, 64)
	l.Reset(1, -7)
	wantErr(t, "Put", snap.Put(d, l, some(70, 1)), api.OK)
	wantState(t, "Put", d, l, state{area: 2, text: some(70, 1)})
}

func TestNil(t *testing.T) {
	d, l := made(t, 64)
	wantErr(t, "Put, no device", snap.Put(nil, l, nil), api.ErrDown)
	wantErr(t, "Put, no device", snap.Put(nil, l, []byte{}), api.ErrDown)
	wantErr(t, "Put, no log", snap.Put(d, nil, some(1024, 1)), api.ErrDown)
	wantErr(t, "Put, no log", snap.Put(d, nil, nil), api.ErrDown)
	wantErr(t, "Put, neither", snap.Put(nil, nil, nil), api.ErrDown)
	wantErr(t, "Put, no device, too large", snap.Put(nil, l, []byte("x")), api.ErrLarge)
	wantErr(t, "Put, no log, too large", snap.Put(d, nil, some(1025, 1)), api.ErrLarge)
	wantErr(t, "Put, neither, too large", snap.Put(nil, nil, some(1025, 1)), api.ErrLarge)
	wantState(t, "errors", d, l, state{})
	if !bytes.Equal(whole(d)[128:], make([]byte, 62*64)) {
		t.Error("P6.1: a Put without a log writes")
	}
	wantErr(t, "Put of nil", snap.Put(d, l, nil), api.OK)
	wantState(t, "Put of nil", d, l, state{area: 1})

	snap.Put(d, l, []byte("text"))
	wantNone(t, "no device", nil, l, api.ErrDown)
	wantNone(t, "no log", d, nil, api.ErrDown)
	wantNone(t, "neither", nil, nil, api.ErrDown)
	l.Reset(0, 0)
	wantNone(t, "no device, no area", nil, l, api.ErrDown)
	// What is none on every device is named first.
	for _, x := range [][2]int64{{3, 0}, {-1, 0}, {1, -1}, {2, math.MinInt64}} {
		l.Reset(x[0], x[1])
		wantNone(t, fmt.Sprint("no device, ", x), nil, l, api.ErrCorrupt)
	}
}

// TestZeroValues has a device and a log that nobody made.
func TestZeroValues(t *testing.T) {
	d, l := made(t, 64)
	wantErr(t, "Put, a log of none", snap.Put(d, &wal.Log{}, []byte("x")), api.ErrDown)
	wantNone(t, "a log of none", d, &wal.Log{}, api.OK)
	wantErr(t, "Put, too large for no sectors", snap.Put(&dev.Dev{}, l, []byte("x")), api.ErrLarge)
	l.Reset(1, 1)
	wantNone(t, "no sectors", &dev.Dev{}, l, api.ErrCorrupt)
	l.Reset(2, 0)
	wantNone(t, "no sectors", &dev.Dev{}, l, api.OK)
}

// TestWhileTheDeviceIsDown: nothing is put any more, and what lasts is still given.
func TestWhileTheDeviceIsDown(t *testing.T) {
	for puts := range 4 {
		d, l := made(t, 64)
		var want state
		for k := range puts {
			snap.Put(d, l, some(100+k, 9))
			want = state{next(want.area), some(100+k, 9), 0}
		}
		l.Append([]byte("x"))
		want.records = 1
		d.Fuse(0)
		for _, n := range []int{0, 1, 64, 1024} {
			wantErr(t, "Put while it is down", snap.Put(d, l, some(n, 1)), api.ErrDown)
			wantState(t, "while it is down", d, l, want)
		}
	}
}

func TestListsAreNotShared(t *testing.T) {
	d, l := made(t, 64)
	room := some(300, 1)
	wantErr(t, "Put", snap.Put(d, l, room[:100]), api.OK)
	if !bytes.Equal(room, some(300, 1)) {
		t.Error("P0.3: a list that is handed in is changed")
	}
	clear(room)
	wantText(t, "a list that is changed behind it", d, l, some(100, 1))

	one, _ := snap.Get(d, l)
	two, _ := snap.Get(d, l)
	clear(one[:cap(one)])
	if !bytes.Equal(two, some(100, 1)) {
		t.Error("P0.3: two answers share memory")
	}
	wantText(t, "an answer that is written into", d, l, some(100, 1))
}

// TestTwoLogsOfADevice: what one of them put the other one gives.
func TestTwoLogsOfADevice(t *testing.T) {
	d, l := made(t, 64)
	m, _, _ := wal.Open(d)
	wantErr(t, "Put", snap.Put(d, l, some(80, 1)), api.OK)
	wantState(t, "the other", d, m, state{area: 1, text: some(80, 1)})
	wantErr(t, "Put", snap.Put(d, m, some(90, 2)), api.OK)
	wantState(t, "the one", d, l, state{area: 2, text: some(90, 2)})
}

func TestDevicesAreApart(t *testing.T) {
	d, l := made(t, 64)
	snap.Put(d, l, some(80, 1))
	c := d.Crash()
	m, _, _ := wal.Open(c)
	snap.Put(d, l, some(90, 2))
	snap.Put(d, l, some(95, 3))
	wantState(t, "one", d, l, state{area: 1, text: some(95, 3)})
	wantState(t, "the other", c, m, state{area: 1, text: some(80, 1)})
}

// TestLongWalk does whatever may be done, with crashes between.
func TestLongWalk(t *testing.T) {
	draw := rand.New(rand.NewPCG(61, 62))
	for _, sectors := range []int{64, 67, 100, 301} {
		d, l := made(t, sectors)
		var want state
		for k := range 400 {
			switch draw.IntN(4) {
			case 0:
				text := some(draw.IntN(snap.Most(d)+1), byte(k))
				wantErr(t, "Put", snap.Put(d, l, text), api.OK)
				want = state{next(want.area), text, 0}
			case 1:
				d = d.Crash()
				l, _, _ = wal.Open(d)
			default:
				if l.Append(some(1+draw.IntN(90), byte(k))) == api.OK {
					want.records++
				}
			}
			wantState(t, fmt.Sprint("step ", k), d, l, want)
		}
	}
}
