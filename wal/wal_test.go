package wal_test

import (
	"bytes"
	"fmt"
	"math"
	"math/rand/v2"
	"slices"
	"testing"

	"fieldfare/api"
	"fieldfare/dev"
	"fieldfare/slot"
	"fieldfare/wal"
)

// state is what a log should hold.
type state struct {
	records      [][]byte
	area, length int64
}

// with gives the state behind one more record.
func (s state) with(b []byte) state {
	s.records = append(slices.Clone(s.records), b)
	return s
}

// taken gives how many bytes of the ring the records take.
func (s state) taken() int {
	n := 0
	for _, b := range s.records {
		n += 2 + len(b)
	}
	return n
}

// text is short for equal states alike and for unlike ones, in all likelihood, not.
func (s state) text() string {
	out := fmt.Sprint(s.area, " ", s.length, ":")
	for _, b := range s.records {
		out += fmt.Sprintf(" %d %q", len(b), b)
	}
	return out
}

// told gives what Open tells of a device, as a state's text or an error's.
func told(t *testing.T, d *dev.Dev) string {
	t.Helper()
	l, records, e := wal.Open(d)
	if (l == nil) != (e != api.OK) || e != api.OK && records != nil {
		t.Errorf("P0.2: Open: %v, %d records, %v", l, len(records), e)
	}
	if e != api.OK {
		return e.Error()
	}
	s := state{records: records}
	s.area, s.length = l.Area()
	if want := ringSize(d) - s.taken(); l.Room() != want {
		t.Errorf("P5.1: Room of one opened: %d, not %d", l.Room(), want)
	}
	return s.text()
}

// ringSize gives how many bytes the ring of a device has.
func ringSize(d *dev.Dev) int {
	return (d.Sectors()/2 - 2) * 64
}

// wantState holds a log, its device and each crash of it against what they should be.
func wantState(t *testing.T, of string, d *dev.Dev, l *wal.Log, want state) {
	t.Helper()
	for _, c := range []*dev.Dev{d, d.Crash(), d.Crash(true, true, true)} {
		if got := told(t, c); got != want.text() {
			t.Fatalf("P5.1: %s: %s, not %s", of, got, want.text())
		}
	}
	if len(d.Loose()) != 0 {
		t.Errorf("P5.1: %s leaves %v loose", of, d.Loose())
	}
	wantTells(t, of, d, l, want)
}

// wantTells holds what a log itself tells against what it should.
func wantTells(t *testing.T, of string, d *dev.Dev, l *wal.Log, want state) {
	t.Helper()
	area, length := l.Area()
	if room := ringSize(d) - want.taken(); l.Room() != room || area != want.area || length != want.length {
		t.Errorf("P5.1: %s: Room %d, not %d; Area %d, %d, not %d, %d", of, l.Room(), room, area, length, want.area, want.length)
	}
}

// wantErr holds what a call told against what it should.
func wantErr(t *testing.T, call string, got, want api.Errno) {
	t.Helper()
	if got != want {
		t.Errorf("P5.1: %s: %v, not %v", call, got, want)
	}
}

// made gives a device with an empty log.
func made(t *testing.T, sectors int) (*dev.Dev, *wal.Log) {
	t.Helper()
	d := dev.New(sectors)
	l, e := wal.Make(d)
	if e != api.OK || l == nil {
		t.Fatalf("P5.1: Make on %d sectors: %v", sectors, e)
	}
	return d, l
}

// record gives n bytes that begin with x, no two neighbours alike.
func record(n int, x byte) []byte {
	b := make([]byte, n)
	for k := range b {
		b[k] = x + byte(7*k)
	}
	return b
}

// filled gives a sector of one byte.
func filled(x byte) []byte { return bytes.Repeat([]byte{x}, api.Sector) }

func TestMake(t *testing.T) {
	for _, x := range []struct{ sectors, room int }{{64, 30 * 64}, {65, 30 * 64}, {66, 31 * 64}, {129, 62 * 64}, {4095, 2045 * 64}, {4096, 2046 * 64}} {
		d, l := made(t, x.sectors)
		if l.Room() != x.room {
			t.Errorf("P5.1: Room on %d sectors: %d, not %d", x.sectors, l.Room(), x.room)
		}
		wantState(t, "Make", d, l, state{})
	}
}

func TestMakeOnTooFewSectors(t *testing.T) {
	var bare dev.Dev
	if l, e := wal.Make(&bare); l != nil || e != api.ErrRange {
		t.Errorf("P5.1: Make without sectors: %v, %v", l, e)
	}
	bare.Fuse(0)
	if l, e := wal.Make(&bare); l != nil || e != api.ErrRange {
		t.Errorf("P0.2: Make without sectors while it is down: %v, %v", l, e)
	}
	if got := told(t, &bare); got != "corrupt" {
		t.Errorf("P5.1: Open without sectors: %s", got)
	}
}

func TestNothingThere(t *testing.T) {
	if l, e := wal.Make(nil); l != nil || e != api.ErrDown {
		t.Errorf("P5.1: Make on nothing: %v, %v", l, e)
	}
	if got := told(t, nil); got != "down" {
		t.Errorf("P5.1: Open of nothing: %s", got)
	}
	var none *wal.Log
	var zero wal.Log
	for name, l := range map[string]*wal.Log{"a nil *Log": none, "a zero Log": &zero} {
		for range 2 {
			for _, n := range []int{0, 1, 1000, 1001} {
				wantErr(t, "Append of "+name, l.Append(record(n, 1)), api.ErrDown)
			}
			wantErr(t, "Reset of "+name, l.Reset(1, 2), api.ErrDown)
			if area, length := l.Area(); l.Room() != 0 || area != 0 || length != 0 {
				t.Errorf("P5.1: %s: Room %d, Area %d, %d", name, l.Room(), area, length)
			}
		}
	}
}

func TestAppendLasts(t *testing.T) {
	d, l := made(t, 128)
	var want state
	for k, n := range []int{1, 2, 61, 62, 63, 64, 126, 127, 128, 255, 256, 257, 511, 512, 999, 1} {
		b := record(n, byte(k))
		wantErr(t, "Append", l.Append(b), api.OK)
		want = want.with(b)
		wantState(t, fmt.Sprint("Append of ", n), d, l, want)
	}
}

func TestEachLength(t *testing.T) {
	d, l := made(t, 64)
	for n := 1; n <= 1000; n++ {
		b := record(n, byte(n))
		wantErr(t, "Append", l.Append(b), api.OK)
		wantState(t, fmt.Sprint("Append of ", n), d, l, state{area: int64(n - 1)}.with(b))
		wantErr(t, "Reset", l.Reset(int64(n), 0), api.OK)
	}
}

func TestAppendOfWrongLengths(t *testing.T) {
	d, l := made(t, 64)
	b := record(5, 5)
	l.Append(b)
	for _, wrong := range [][]byte{nil, {}, b[:0], record(1001, 1), record(1002, 1), record(65536, 1), record(65537, 1), record(1<<20, 1)} {
		wantErr(t, fmt.Sprint("Append of ", len(wrong)), l.Append(wrong), api.ErrForm)
		wantState(t, "Append of a wrong length", d, l, state{}.with(b))
	}
	// It is no error of the device.
	wantErr(t, "Append", l.Append(b), api.OK)
	wantState(t, "Append", d, l, state{}.with(b).with(b))
}

func TestRoomRunsOut(t *testing.T) {
	// What is left behind one record of each length, to the byte.
	for left := range 70 {
		d, l := made(t, 64)
		want := state{}.with(record(1000, 1)).with(record(1920-1002-2-left, 2))
		for _, b := range want.records {
			wantErr(t, "Append", l.Append(b), api.OK)
		}
		if l.Room() != left {
			t.Fatalf("P5.1: Room %d, not %d", l.Room(), left)
		}
		for _, n := range []int{left - 1, left, left + 1, 999, 1000} {
			if n > 0 {
				wantErr(t, fmt.Sprint("Append of ", n, " where there are ", left), l.Append(record(n, 3)), api.ErrFull)
			}
		}
		wantErr(t, "Append of none where there is no room", l.Append(nil), api.ErrForm)
		wantErr(t, "Append of too many where there is no room", l.Append(record(1001, 3)), api.ErrForm)
		wantState(t, "Append without room", d, l, want)
		if left > 2 {
			b := record(left-2, 4)
			wantErr(t, "Append of all that is left", l.Append(b), api.OK)
			want = want.with(b)
			wantState(t, "Append of all that is left", d, l, want)
			wantErr(t, "Append where nothing is left", l.Append([]byte{1}), api.ErrFull)
		}
		wantErr(t, "Reset of a full one", l.Reset(3, 4), api.OK)
		wantState(t, "Reset of a full one", d, l, state{area: 3, length: 4})
	}
}

func TestReset(t *testing.T) {
	d, l := made(t, 64)
	for k, n := range []int64{0, 1, -1, 127, -129, math.MaxInt64, math.MinInt64, 1 << 40} {
		for range 2 { // full and empty
			wantErr(t, "Reset", l.Reset(n, -int64(k)), api.OK)
			wantState(t, "Reset", d, l, state{area: n, length: -int64(k)})
			wantErr(t, "Reset", l.Reset(int64(k), n), api.OK)
			wantState(t, "Reset", d, l, state{area: int64(k), length: n})
			b := record(k+1, byte(k))
			wantErr(t, "Append", l.Append(b), api.OK)
			wantState(t, "Append behind a Reset", d, l, state{area: int64(k), length: n}.with(b))
		}
	}
}

// TestRoundTheRing lays a full log at each beginning that the ring has, and holds it.
func TestRoundTheRing(t *testing.T) {
	d, l := made(t, 64)
	for turn := range 1920 {
		want := state{area: int64(turn), length: -5}
		wantErr(t, "Reset", l.Reset(want.area, want.length), api.OK)
		for k, n := range []int{1000, 700, 211, 1} {
			b := record(n, byte(turn+k))
			wantErr(t, "Append", l.Append(b), api.OK)
			want = want.with(b)
		}
		if got := told(t, d.Crash()); got != want.text() || l.Room() != 0 {
			t.Fatalf("P5.1: turn %d: Room %d; %s, not %s", turn, l.Room(), got, want.text())
		}
		// The next one begins 7 bytes on, which comes to each byte of the ring.
		l.Reset(0, 0)
		l.Append(record(5, 9))
	}
}

// TestRoundTheRingByShortRecords: the next one begins where the last one ended, so that the tests here do go round.
func TestRoundTheRingByShortRecords(t *testing.T) {
	d, l := made(t, 64)
	for k := range 1920 / 12 {
		wantErr(t, "Append", l.Append(record(10, 1)), api.OK)
		wantErr(t, "Reset", l.Reset(1, int64(k)), api.OK)
	}
	for i := 2; i < 32; i++ {
		if b, _ := d.Read(i); bytes.Equal(b, filled(0)) {
			t.Errorf("P5.1: the sector %d is not come to", i)
		}
	}
}

// walk does what a log may be told, of any kind, and gives the state behind it.
func walk(t *testing.T, draw *rand.Rand, d *dev.Dev, l *wal.Log, want state) state {
	t.Helper()
	if draw.IntN(8) == 0 {
		area, length := int64(draw.Uint64()), int64(draw.IntN(9))
		wantErr(t, "Reset", l.Reset(area, length), api.OK)
		return state{area: area, length: length}
	}
	b := record(1+draw.IntN(1000)>>draw.IntN(10), byte(draw.IntN(256)))
	room := ringSize(d) - want.taken()
	if 2+len(b) > room {
		wantErr(t, "Append", l.Append(b), api.ErrFull)
		return want
	}
	wantErr(t, "Append", l.Append(b), api.OK)
	return want.with(b)
}

func TestLongWalk(t *testing.T) {
	draw := rand.New(rand.NewPCG(21, 22))
	for _, sectors := range []int{64, 65, 67, 100, 300} {
		d, l := made(t, sectors)
		var want state
		for k := range 800 {
			want = walk(t, draw, d, l, want)
			wantState(t, fmt.Sprint("step ", k), d, l, want)
			if draw.IntN(10) == 0 {
				d = d.Crash()
				l, _, _ = wal.Open(d)
			}
		}
	}
}

func TestOtherSectorsStay(t *testing.T) {
	for _, sectors := range []int{64, 65, 129} {
		d := dev.New(sectors)
		for i := range sectors {
			d.Write(i, filled(byte(100+i)))
		}
		l, _ := wal.Make(d)
		for i := 2; i < sectors; i++ {
			if b, _ := d.Crash().Read(i); !bytes.Equal(b, filled(byte(100+i))) {
				t.Errorf("P5.1: Make writes the sector %d", i)
			}
		}
		for k := range 100 {
			if l.Append(record(300, byte(k))) != api.OK {
				l.Reset(math.MinInt64, math.MaxInt64)
			}
		}
		for i := sectors / 2; i < sectors; i++ {
			if b, _ := d.Crash().Read(i); !bytes.Equal(b, filled(byte(100+i))) {
				t.Errorf("P5.1: the sector %d of %d is written", i, sectors)
			}
		}
	}
}

func TestOpenOfWhatIsNoLog(t *testing.T) {
	if got := told(t, dev.New(64)); got != "corrupt" {
		t.Errorf("P5.1: Open of noughts: %s", got)
	}
	for x := range 256 {
		d := dev.New(64)
		for i := range 64 {
			d.Write(i, filled(byte(x)))
		}
		if got := told(t, d); got != "corrupt" {
			t.Errorf("P5.1: Open of all %d: %s", x, got)
		}
	}
}

// TestSlotsThatAreNoLog has slots that somebody else made.
func TestSlotsThatAreNoLog(t *testing.T) {
	for _, ns := range [][]int64{{}, {0}, {0, 0}, {0, 0, 0}, {-1, 0, 0, 0}, {1920, 0, 0, 0}, {0, -1, 0, 0}, {0, 1921, 0, 0}, {0, 1, 0, 0}, {0, 2, 0, 0},
		{math.MaxInt64, math.MaxInt64, 0, 0}, {math.MinInt64, math.MinInt64, 0, 0}, {0, math.MaxInt64, 0, 0}, {math.MaxInt64, 0, 0, 0}, {1919, 1920, 0, 0}} {
		d := dev.New(64)
		if _, e := slot.Make(d, ns...); e != api.OK {
			t.Fatal(e)
		}
		if got := told(t, d); got != "corrupt" {
			t.Errorf("P5.1: Open of the slots %v: %s", ns, got)
		}
	}
}

// TestRingThatIsNoLog writes over the records.
func TestRingThatIsNoLog(t *testing.T) {
	for _, x := range []byte{0, 255, 4} {
		d, l := made(t, 64)
		// Of 4 alone they would be one record of 1,028 bytes.
		l.Append(record(1000, 1))
		l.Append(record(26, 1))
		for i := 2; i < 32; i++ {
			d.Write(i, filled(x))
		}
		if got := told(t, d); got != "corrupt" {
			t.Errorf("P5.1: Open of a ring of %d: %s", x, got)
		}
	}
}

// TestRingOfAnyBytes: whatever stands there, Open ends.
func TestRingOfAnyBytes(t *testing.T) {
	draw := rand.New(rand.NewPCG(23, 24))
	for range 2000 {
		d := dev.New(64)
		slot.Make(d, draw.Int64N(1920), draw.Int64N(1921), 1, 2)
		for i := 2; i < 32; i++ {
			b := make([]byte, api.Sector)
			for k := range b {
				b[k] = byte(draw.Uint32() & 0xff >> draw.IntN(8))
			}
			d.Write(i, b)
		}
		if l, records, e := wal.Open(d); e == api.OK {
			wantTells(t, "any bytes", d, l, state{records, 1, 2})
		} else {
			wantErr(t, "Open of any bytes", e, api.ErrCorrupt)
		}
	}
}

// TestSeveralLogsOfADevice tells one and the other: none gets in another's way.
func TestSeveralLogsOfADevice(t *testing.T) {
	d, l := made(t, 64)
	m, _, _ := wal.Open(d)
	n, _ := wal.Make(d)
	draw := rand.New(rand.NewPCG(25, 26))
	var want state
	for range 500 {
		want = walk(t, draw, d, []*wal.Log{l, m, n}[draw.IntN(3)], want)
		for _, x := range []*wal.Log{l, m, n} {
			wantState(t, "several", d, x, want)
		}
	}
}

func TestDevicesAreApart(t *testing.T) {
	d, l := made(t, 64)
	l.Append(record(9, 1))
	c := d.Crash()
	m, _, _ := wal.Open(c)
	l.Append(record(9, 2))
	m.Reset(1, 1)
	wantState(t, "one", d, l, state{}.with(record(9, 1)).with(record(9, 2)))
	wantState(t, "the other", c, m, state{area: 1, length: 1})
}

func TestListsAreNotShared(t *testing.T) {
	room := record(40, 1)
	d, l := made(t, 64)
	l.Append(room[:20])
	l.Append(room[20:30])
	if !bytes.Equal(room, record(40, 1)) {
		t.Error("P0.3: a list that is handed in is changed")
	}
	want := state{}.with(record(20, 1)).with(record(40, 1)[20:30])
	clear(room)
	wantState(t, "a list that is changed behind it", d, l, want)

	_, one, _ := wal.Open(d)
	_, two, _ := wal.Open(d)
	for k := range one[0][:cap(one[0])] {
		one[0][:cap(one[0])][k] = 77
	}
	if !bytes.Equal(one[1], want.records[1]) {
		t.Error("P0.3: two records of an answer share memory")
	}
	clear(one[:cap(one)])
	if (state{records: two}).text() != want.text() {
		t.Error("P0.3: two answers share memory")
	}
	wantState(t, "an answer that is written into", d, l, want)
}
