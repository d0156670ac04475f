package dev_test

import (
	"bytes"
	"math"
	"math/rand/v2"
	"slices"
	"testing"

	"fieldfare/api"
	"fieldfare/dev"
)

// filled gives a sector of one byte.
func filled(x byte) []byte { return bytes.Repeat([]byte{x}, api.Sector) }

// wantErr holds what a call told against what it should.
func wantErr(t *testing.T, call string, got, want api.Errno) {
	t.Helper()
	if got != want {
		t.Errorf("%s: %v, not %v", call, got, want)
	}
}

// wantSector holds a sector against one of one byte.
func wantSector(t *testing.T, d *dev.Dev, i int, x byte) {
	t.Helper()
	b, e := d.Read(i)
	if e != api.OK || !bytes.Equal(b, filled(x)) {
		t.Errorf("Read(%d): %v, %v, not all %d", i, b, e, x)
	}
}

// wantLoose holds the loose sectors against those that should be.
func wantLoose(t *testing.T, d *dev.Dev, want ...int) {
	t.Helper()
	if got := d.Loose(); !slices.Equal(got, want) {
		t.Errorf("Loose: %v, not %v", got, want)
	}
}

func TestNewTakesItsBoundsAndNoughts(t *testing.T) {
	for _, n := range []int{64, 65, 1000, 4095, 4096} {
		d := dev.New(n)
		if d == nil || d.Sectors() != n || d.Down() {
			t.Fatalf("New(%d)", n)
		}
		wantLoose(t, d)
		for i := range n {
			wantSector(t, d, i, 0)
		}
	}
	for _, n := range []int{math.MinInt, -64, -1, 0, 1, 63, 4097, math.MaxInt} {
		if dev.New(n) != nil {
			t.Errorf("New(%d) is not nil", n)
		}
	}
}

func TestReadOfNoSector(t *testing.T) {
	d := dev.New(64)
	for _, i := range []int{math.MinInt, -1, 64, 65, math.MaxInt} {
		if b, e := d.Read(i); b != nil || e != api.ErrRange {
			t.Errorf("Read(%d): %v, %v", i, b, e)
		}
	}
}

func TestWriteTellsTheFirstError(t *testing.T) {
	d := dev.New(64)
	for _, x := range []struct {
		call string
		i    int
		b    []byte
		want api.Errno
	}{
		{"first sector", 0, filled(1), api.OK},
		{"last sector", 63, filled(2), api.OK},
		{"sector behind the last", 64, filled(3), api.ErrRange},
		{"sector ahead of the first", -1, filled(3), api.ErrRange},
		{"least number", math.MinInt, filled(3), api.ErrRange},
		{"greatest number", math.MaxInt, filled(3), api.ErrRange},
		{"range ahead of form", 64, nil, api.ErrRange},
		{"nil", 5, nil, api.ErrForm},
		{"empty", 5, []byte{}, api.ErrForm},
		{"a byte too few", 5, filled(4)[1:], api.ErrForm},
		{"a byte too many", 5, append(filled(4), 4), api.ErrForm},
		{"long", 5, make([]byte, 1<<16), api.ErrForm},
		{"spare room does not count", 5, filled(4)[:3], api.ErrForm},
	} {
		wantErr(t, x.call, d.Write(x.i, x.b), x.want)
	}
	wantSector(t, d, 0, 1)
	wantSector(t, d, 63, 2)
	wantSector(t, d, 5, 0)
	wantLoose(t, d, 0, 63)

	d.Fuse(0)
	wantErr(t, "down ahead of range", d.Write(64, nil), api.ErrDown)
	wantErr(t, "down ahead of form", d.Write(5, nil), api.ErrDown)
	wantErr(t, "down", d.Write(5, filled(5)), api.ErrDown)
	wantSector(t, d, 5, 0)
	wantLoose(t, d, 0, 63)
}

func TestWriteKeepsEachByte(t *testing.T) {
	d := dev.New(64)
	b := make([]byte, api.Sector)
	for i := range b {
		b[i] = byte(255 - i)
	}
	wantErr(t, "Write", d.Write(7, b), api.OK)
	if got, e := d.Read(7); e != api.OK || !bytes.Equal(got, b) {
		t.Errorf("Read: %v, %v", got, e)
	}
	wantSector(t, d, 6, 0)
	wantSector(t, d, 8, 0)
}

func TestListsAreNotShared(t *testing.T) {
	d := dev.New(64)
	room := append(filled(1), filled(9)...)
	b := room[:api.Sector]
	d.Write(3, b)
	d.Write(4, filled(2))
	if !bytes.Equal(room[:api.Sector], filled(1)) || !bytes.Equal(room[api.Sector:], filled(9)) {
		t.Error("Write changes what it is handed")
	}
	b[0] = 8
	wantSector(t, d, 3, 1)

	one, _ := d.Read(3)
	two, _ := d.Read(3)
	for i := range one[:cap(one)] {
		one[:cap(one)][i] = 7
	}
	if !bytes.Equal(two, filled(1)) {
		t.Error("two Reads share memory")
	}
	wantSector(t, d, 3, 1)
	wantSector(t, d, 4, 2)

	loose := d.Loose()
	loose[0] = 60
	wantLoose(t, d, 3, 4)

	keep := []bool{true, false, true}
	d.Crash(keep[:2]...)
	if !slices.Equal(keep, []bool{true, false, true}) {
		t.Error("Crash changes what it is handed")
	}
}

func TestLooseIsRisingUntilFlush(t *testing.T) {
	d := dev.New(64)
	for _, i := range []int{40, 3, 63, 0, 3, 17} {
		d.Write(i, filled(1))
	}
	wantLoose(t, d, 0, 3, 17, 40, 63)
	d.Write(64, filled(1))
	d.Write(5, nil)
	wantLoose(t, d, 0, 3, 17, 40, 63)
	wantErr(t, "Flush", d.Flush(), api.OK)
	wantLoose(t, d)
	d.Write(3, filled(1))
	wantLoose(t, d, 3)
	wantErr(t, "Flush", d.Flush(), api.OK)
	wantErr(t, "Flush of nothing", d.Flush(), api.OK)
	wantLoose(t, d)
}

func TestCrashKeepsWhatKeepSays(t *testing.T) {
	d := dev.New(64)
	d.Write(3, filled(1))
	d.Write(4, filled(2))
	d.Flush()
	d.Write(9, filled(3))
	d.Write(3, filled(4))
	d.Write(3, filled(5))
	for _, x := range []struct {
		keep        []bool
		three, nine byte
	}{
		{nil, 1, 0},
		{[]bool{}, 1, 0},
		{[]bool{false}, 1, 0},
		{[]bool{true}, 5, 0},
		{[]bool{false, true}, 1, 3},
		{[]bool{true, true}, 5, 3},
		{[]bool{true, false, true}, 5, 0},
		{slices.Repeat([]bool{true}, 10000), 5, 3},
	} {
		c := d.Crash(x.keep...)
		if c.Sectors() != 64 {
			t.Errorf("Sectors: %d", c.Sectors())
		}
		for _, again := range []*dev.Dev{c, c.Crash(), c.Crash(true, true)} {
			wantSector(t, again, 3, x.three)
			wantSector(t, again, 4, 2)
			wantSector(t, again, 9, x.nine)
			wantLoose(t, again)
		}
	}
	wantSector(t, d, 3, 5)
	wantSector(t, d, 9, 3)
	wantLoose(t, d, 3, 9)
}

func TestCrashSharesNothing(t *testing.T) {
	d := dev.New(64)
	d.Write(1, filled(1))
	d.Fuse(10)
	c := d.Crash(true)
	c.Write(1, filled(2))
	c.Write(2, filled(2))
	c.Fuse(0)
	wantSector(t, d, 1, 1)
	wantSector(t, d, 2, 0)
	wantLoose(t, d, 1)
	d.Write(1, filled(3))
	d.Write(5, filled(3))
	d.Flush()
	wantSector(t, c, 1, 2)
	wantSector(t, c, 5, 0)
	wantLoose(t, c, 1, 2)
	if d.Down() || !c.Down() {
		t.Error("a device's fuse is another one's")
	}
}

func TestCrashHasNoFuse(t *testing.T) {
	d := dev.New(64)
	d.Fuse(1)
	c := d.Crash()
	for range 5 {
		wantErr(t, "Write", c.Write(1, filled(1)), api.OK)
		wantErr(t, "Flush", c.Flush(), api.OK)
	}
	d.Write(1, filled(1))
	if !d.Down() || d.Crash().Down() {
		t.Error("behind a crash it is down, or ahead of it it is not")
	}
}

func TestFuseCountsWhatIsDone(t *testing.T) {
	d := dev.New(64)
	d.Fuse(3)
	wantErr(t, "first", d.Write(1, filled(1)), api.OK)
	wantErr(t, "range", d.Write(64, filled(1)), api.ErrRange)
	wantErr(t, "form", d.Write(1, nil), api.ErrForm)
	d.Read(1)
	d.Read(99)
	d.Loose()
	d.Crash()
	d.Sectors()
	wantErr(t, "second", d.Flush(), api.OK)
	if d.Down() {
		t.Error("down behind two of three")
	}
	wantErr(t, "third", d.Write(2, filled(2)), api.OK)
	if !d.Down() {
		t.Error("not down behind three of three")
	}
	wantErr(t, "fourth", d.Write(3, filled(3)), api.ErrDown)
	wantErr(t, "fifth", d.Flush(), api.ErrDown)
	wantSector(t, d, 1, 1)
	wantSector(t, d, 2, 2)
	wantSector(t, d, 3, 0)
	wantLoose(t, d, 2)
	if _, e := d.Read(64); e != api.ErrRange {
		t.Error("Read while it is down")
	}
	wantSector(t, d.Crash(), 2, 0)
	wantSector(t, d.Crash(true), 2, 2)
}

func TestFuseEndsInAFlush(t *testing.T) {
	d := dev.New(64)
	d.Fuse(2)
	d.Write(1, filled(1))
	wantErr(t, "Flush", d.Flush(), api.OK)
	if !d.Down() {
		t.Error("a Flush does not count")
	}
	wantLoose(t, d)
	wantSector(t, d.Crash(), 1, 1)
}

func TestTheLastFuseCounts(t *testing.T) {
	d := dev.New(64)
	d.Fuse(1)
	d.Fuse(2)
	d.Write(1, filled(1))
	if d.Down() {
		t.Error("the first Fuse counts")
	}
	d.Fuse(2)
	d.Write(1, filled(1))
	if d.Down() {
		t.Error("a Fuse does not begin anew")
	}
	d.Fuse(math.MaxInt)
	for range 10 {
		d.Write(1, filled(1))
	}
	if d.Down() {
		t.Error("a long Fuse ends")
	}
	d.Fuse(1)
	d.Flush()
	if !d.Down() {
		t.Error("a shorter Fuse does not count")
	}
}

func TestDownIsForGood(t *testing.T) {
	for _, n := range []int{0, -1, math.MinInt} {
		d := dev.New(64)
		d.Fuse(7)
		d.Fuse(n)
		for _, m := range []int{5, 1, 0, -1, math.MaxInt} {
			if !d.Down() {
				t.Errorf("Fuse(%d): not down", n)
			}
			wantErr(t, "Write", d.Write(1, filled(1)), api.ErrDown)
			wantErr(t, "Flush", d.Flush(), api.ErrDown)
			d.Fuse(m)
		}
		wantSector(t, d, 1, 0)
		wantLoose(t, d)
	}
}

func TestNoDevice(t *testing.T) {
	var d *dev.Dev
	d.Fuse(0)
	d.Fuse(9)
	if b, e := d.Read(0); b != nil || e != api.ErrDown {
		t.Errorf("Read: %v, %v", b, e)
	}
	if b, e := d.Read(-1); b != nil || e != api.ErrDown {
		t.Errorf("Read of none: %v, %v", b, e)
	}
	wantErr(t, "Write", d.Write(0, filled(1)), api.ErrDown)
	wantErr(t, "Write of nothing", d.Write(-1, nil), api.ErrDown)
	wantErr(t, "Flush", d.Flush(), api.ErrDown)
	if d.Sectors() != 0 || !d.Down() || d.Loose() != nil || d.Crash() != nil || d.Crash(true) != nil {
		t.Error("a nil device is there")
	}
}

func TestZeroDeviceHasNoSector(t *testing.T) {
	var d dev.Dev
	wantErr(t, "Write", d.Write(0, filled(1)), api.ErrRange)
	wantErr(t, "Flush", d.Flush(), api.OK)
	if b, e := d.Read(0); b != nil || e != api.ErrRange || d.Sectors() != 0 || len(d.Loose()) != 0 || d.Crash(true).Sectors() != 0 {
		t.Error("a zero device has something")
	}
}

// plain is a device that keeps all twice, to hold Dev against.
type plain struct {
	now, last [64]byte
	loose     [64]bool
	fused     bool
	left      int
}

func (p *plain) down() bool { return p.fused && p.left <= 0 }

func (p *plain) write(i int, x byte) api.Errno {
	if p.down() {
		return api.ErrDown
	}
	if i < 0 || i >= len(p.now) {
		return api.ErrRange
	}
	p.now[i], p.loose[i] = x, true
	p.left--
	return api.OK
}

func (p *plain) flush() api.Errno {
	if p.down() {
		return api.ErrDown
	}
	p.last, p.loose = p.now, [64]bool{}
	p.left--
	return api.OK
}

func (p *plain) fuse(n int) {
	if !p.down() {
		p.fused, p.left = true, n
	}
}

func (p *plain) crash(keep []bool) *plain {
	c := &plain{now: p.last}
	k := 0
	for i, loose := range p.loose {
		if loose && k < len(keep) && keep[k] {
			c.now[i] = p.now[i]
		}
		if loose {
			k++
		}
	}
	c.last = c.now
	return c
}

// wantAlike holds a device against the plain one.
func wantAlike(t *testing.T, d *dev.Dev, p *plain) {
	t.Helper()
	loose := []int{}
	for i := range p.now {
		wantSector(t, d, i, p.now[i])
		if p.loose[i] {
			loose = append(loose, i)
		}
	}
	wantLoose(t, d, loose...)
	if d.Down() != p.down() {
		t.Errorf("Down: %v", d.Down())
	}
}

func TestAgainstAPlainDevice(t *testing.T) {
	draw := rand.New(rand.NewPCG(1, 2))
	for range 50 {
		d, p := dev.New(64), &plain{}
		for range 120 {
			switch draw.IntN(12) {
			case 0:
				wantErr(t, "Flush", d.Flush(), p.flush())
			case 1:
				n := draw.IntN(40) - 1
				d.Fuse(n)
				p.fuse(n)
			case 2:
				keep := make([]bool, draw.IntN(12))
				for k := range keep {
					keep[k] = draw.IntN(2) == 1
				}
				elder, old := d, *p
				d, p = d.Crash(keep...), p.crash(keep)
				wantAlike(t, elder, &old)
			default:
				i, x := draw.IntN(66)-1, byte(draw.IntN(256))
				wantErr(t, "Write", d.Write(i, filled(x)), p.write(i, x))
			}
			wantAlike(t, d, p)
		}
		if t.Failed() {
			return
		}
	}
}
