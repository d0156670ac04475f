package slot_test

import (
	"bytes"
	"fmt"
	"math"
	"math/rand/v2"
	"slices"
	"testing"

	"fieldfare/api"
	"fieldfare/dev"
	"fieldfare/slot"
)

// none is what told gives where neither slot was written.
const none = "corrupt"

// told gives what Open tells of a device, as a text.
func told(t *testing.T, d *dev.Dev) string {
	t.Helper()
	s, ns, e := slot.Open(d)
	if (s == nil) != (e != api.OK) || e != api.OK && ns != nil {
		t.Errorf("P0.2: Open: %v, %v, %v", s, ns, e)
	}
	if e != api.OK {
		return e.Error()
	}
	return fmt.Sprint(ns)
}

// wantTold holds what Open tells against what it should, on the device and behind each crash of it.
func wantTold(t *testing.T, of string, d *dev.Dev, ns ...int64) {
	t.Helper()
	want := fmt.Sprint(ns)
	for _, c := range []*dev.Dev{d, d.Crash(), d.Crash(true, true)} {
		if got := told(t, c); got != want {
			t.Errorf("P4.1: %s: %s, not %s", of, got, want)
		}
	}
}

// wantErr holds what a call told against what it should.
func wantErr(t *testing.T, call string, got, want api.Errno) {
	t.Helper()
	if got != want {
		t.Errorf("P4.1: %s: %v, not %v", call, got, want)
	}
}

// made gives a device of 64 sectors with the numbers of a Make, and its Slots.
func made(t *testing.T, ns ...int64) (*dev.Dev, *slot.Slots) {
	t.Helper()
	d := dev.New(64)
	s, e := slot.Make(d, ns...)
	if e != api.OK || s == nil {
		t.Fatalf("P4.1: Make(%v): %v", ns, e)
	}
	return d, s
}

// filled gives a sector of one byte.
func filled(x byte) []byte { return bytes.Repeat([]byte{x}, api.Sector) }

// keeps gives each way in which n loose sectors may stay.
func keeps(n int) [][]bool {
	all := [][]bool{{}}
	for range n {
		var longer [][]bool
		for _, k := range all {
			longer = append(longer, append(slices.Clone(k), false), append(slices.Clone(k), true))
		}
		all = longer
	}
	return all
}

// lists gives lists of 0 to 4 numbers, with the edges of a number.
func lists() [][]int64 {
	edge := []int64{0, 1, -1, 127, 128, -128, -129, math.MaxInt64, math.MinInt64, math.MaxInt32, math.MinInt32}
	all := [][]int64{nil, {}, {math.MinInt64, math.MinInt64, math.MinInt64, math.MinInt64}, {math.MaxInt64, math.MaxInt64, math.MaxInt64, math.MaxInt64}, {0, 0}, {0, 0, 0}, {0, 0, 0, 0}, {4, 3, 2, 1}}
	for k, n := range edge {
		all = append(all, []int64{n}, []int64{n, edge[k/2]}, []int64{0, n, -7}, []int64{5, n, n, 0})
	}
	return all
}

func TestMakeLasts(t *testing.T) {
	for _, ns := range lists() {
		d, _ := made(t, ns...)
		wantTold(t, "Make", d, ns...)
		if len(d.Loose()) != 0 {
			t.Errorf("P4.1: Make leaves %v loose", d.Loose())
		}
	}
	for _, n := range []int{64, 65, 4096} {
		d := dev.New(n)
		_, e := slot.Make(d, 4)
		wantErr(t, "Make", e, api.OK)
		wantTold(t, "Make", d, 4)
	}
}

func TestSetLasts(t *testing.T) {
	d, s := made(t, 1, 2, 3)
	for range 3 {
		for _, ns := range lists() {
			wantErr(t, "Set", s.Set(ns...), api.OK)
			wantTold(t, "Set", d, ns...)
			if len(d.Loose()) != 0 {
				t.Errorf("P4.1: Set leaves %v loose", d.Loose())
			}
		}
	}
}

func TestManySets(t *testing.T) {
	d, s := made(t)
	for k := range int64(70000) {
		if e := s.Set(k); e != api.OK {
			t.Fatalf("P4.1: Set %d: %v", k, e)
		}
		if _, ns, e := slot.Open(d); e != api.OK || !slices.Equal(ns, []int64{k}) {
			t.Fatalf("P4.1: Open behind %d: %v, %v", k, ns, e)
		}
	}
}

func TestOpenGoesOn(t *testing.T) {
	d, _ := made(t, 0)
	for k := int64(1); k < 20; k++ {
		d = d.Crash()
		s, ns, e := slot.Open(d)
		if e != api.OK || !slices.Equal(ns, []int64{k - 1}) {
			t.Fatalf("P4.1: Open: %v, %v", ns, e)
		}
		wantErr(t, "Set", s.Set(k), api.OK)
		wantTold(t, "Set behind an Open", d, k)
	}
}

func TestMoreThanFour(t *testing.T) {
	long := make([]int64, 100000)
	for _, ns := range [][]int64{{1, 2, 3, 4, 5}, {0, 0, 0, 0, 0}, long} {
		d, s := made(t, 8, 9)
		if x, e := slot.Make(d, ns...); x != nil || e != api.ErrForm {
			t.Errorf("P4.1: Make of %d: %v, %v", len(ns), x, e)
		}
		wantTold(t, "a Make of too many", d, 8, 9)
		wantErr(t, "Set of too many", s.Set(ns...), api.ErrForm)
		wantTold(t, "a Set of too many", d, 8, 9)
		// It is no error of the device.
		wantErr(t, "Set", s.Set(7), api.OK)
		wantTold(t, "Set", d, 7)
		// The form is named ahead of the device.
		if x, e := slot.Make(nil, ns...); x != nil || e != api.ErrForm {
			t.Errorf("P0.2: Make of %d on nothing: %v, %v", len(ns), x, e)
		}
		d.Fuse(0)
		if x, e := slot.Make(d, ns...); x != nil || e != api.ErrForm {
			t.Errorf("P0.2: Make of %d while it is down: %v, %v", len(ns), x, e)
		}
		wantErr(t, "Set of too many while it is down", s.Set(ns...), api.ErrForm)
		wantErr(t, "Set while it is down", s.Set(1), api.ErrDown)
	}
	fresh := dev.New(64)
	slot.Make(fresh, 1, 2, 3, 4, 5)
	if got := told(t, fresh); got != none || len(fresh.Loose()) != 0 {
		t.Errorf("P4.1: a Make of too many writes: %s", got)
	}
}

func TestNothingThere(t *testing.T) {
	for _, ns := range [][]int64{nil, {1}, {1, 2, 3, 4}} {
		if s, e := slot.Make(nil, ns...); s != nil || e != api.ErrDown {
			t.Errorf("P4.1: Make on nothing: %v, %v", s, e)
		}
	}
	if got := told(t, nil); got != "down" {
		t.Errorf("P4.1: Open of nothing: %s", got)
	}
	var s *slot.Slots
	var zero slot.Slots
	for range 2 {
		for _, ns := range [][]int64{nil, {1}, {1, 2, 3, 4}, {1, 2, 3, 4, 5}} {
			wantErr(t, "Set of a nil *Slots", s.Set(ns...), api.ErrDown)
		}
		wantErr(t, "Set of a zero Slots", zero.Set(1), api.ErrDown)
	}
	// A device without a sector tells its own error.
	var bare dev.Dev
	if s, e := slot.Make(&bare, 1); s != nil || e != api.ErrRange {
		t.Errorf("P4.1: Make without sectors: %v, %v", s, e)
	}
	if got := told(t, &bare); got != none {
		t.Errorf("P4.1: Open without sectors: %s", got)
	}
}

func TestDeviceDown(t *testing.T) {
	d, s := made(t, 6)
	d.Fuse(0)
	if x, e := slot.Make(d, 7); x != nil || e != api.ErrDown {
		t.Errorf("P4.1: Make while it is down: %v, %v", x, e)
	}
	wantErr(t, "Set while it is down", s.Set(7), api.ErrDown)
	wantTold(t, "while it is down", d, 6)
	x, _, _ := slot.Open(d)
	wantErr(t, "Set of one opened while it is down", x.Set(7), api.ErrDown)
	wantTold(t, "while it is down", d, 6)
}

func TestErrorIsForGood(t *testing.T) {
	for fuse := range 2 {
		d, s := made(t, 6)
		d.Fuse(fuse)
		wantErr(t, "Set", s.Set(7), api.ErrDown)
		for range 3 {
			for _, ns := range [][]int64{nil, {1}, {1, 2, 3, 4}, {1, 2, 3, 4, 5}} {
				wantErr(t, "Set for good", s.Set(ns...), api.ErrDown)
			}
		}
	}
}

// TestErrorIsForGoodOnADeviceThatIsUpAgain puts another device in the place of the one that went down.
func TestErrorIsForGoodOnADeviceThatIsUpAgain(t *testing.T) {
	d, s := made(t, 6)
	c := d.Crash()
	d.Fuse(0)
	wantErr(t, "Set", s.Set(7), api.ErrDown)
	*d = *c
	wantErr(t, "Set for good", s.Set(8), api.ErrDown)
	wantTold(t, "Set for good", d, 6)
}

func TestOpenOfWhatIsNoSlot(t *testing.T) {
	if got := told(t, dev.New(64)); got != none {
		t.Errorf("P4.1: Open of noughts: %s", got)
	}
	for x := range 256 {
		d := dev.New(64)
		d.Write(0, filled(byte(x)))
		d.Write(1, filled(byte(x)))
		if got := told(t, d); got != none {
			t.Errorf("P4.1: Open of all %d: %s", x, got)
		}
	}
	draw := rand.New(rand.NewPCG(7, 8))
	for range 20000 {
		d := dev.New(64)
		for i := range 2 {
			b := make([]byte, api.Sector)
			for k := range b {
				// Small ones are likelier to be counts.
				b[k] = byte(draw.Uint32() >> draw.IntN(8) & 0xff >> draw.IntN(8))
			}
			d.Write(i, b)
		}
		if got := told(t, d); got != none {
			t.Fatalf("P4.1: Open of any bytes: %s", got)
		}
	}
}

// change writes a sector with one of its bits changed.
func change(d *dev.Dev, i, bit int) {
	b, _ := d.Read(i)
	b[bit/8] ^= 1 << (bit % 8)
	d.Write(i, b)
}

func TestOneSlotIsNone(t *testing.T) {
	for bit := range api.Sector * 8 {
		for i := range 2 {
			// Behind a Make there is nothing of what was ahead.
			d, s := made(t, 1)
			s.Set(2)
			s.Set(3)
			slot.Make(d, 4, math.MinInt64)
			change(d, i, bit)
			if got, want := told(t, d), fmt.Sprint([]int64{4, math.MinInt64}); got != want {
				t.Fatalf("P4.1: bit %d of slot %d changed behind a Make: %s", bit, i, got)
			}
			change(d, 1-i, bit)
			if got := told(t, d); got != none {
				t.Fatalf("P4.1: bit %d of both changed: %s", bit, got)
			}

			d, s = made(t, 1)
			s.Set(5)
			change(d, i, bit)
			if got := told(t, d); got != "[1]" && got != "[5]" {
				t.Fatalf("P4.1: bit %d of slot %d changed: %s", bit, i, got)
			}
			// Whichever is left, it goes on.
			x, _, _ := slot.Open(d)
			for _, y := range []*slot.Slots{x, s, x} {
				wantErr(t, "Set", y.Set(6, int64(bit)), api.OK)
				wantTold(t, "Set beside one that is none", d, 6, int64(bit))
			}
		}
	}
}

// used gives devices of each sort on which a Make may find itself, nothing loose.
func used(t *testing.T) []*dev.Dev {
	all := []*dev.Dev{dev.New(64)}
	for _, x := range []byte{1, 8, 9, 255} {
		d := dev.New(64)
		for i := range 64 {
			d.Write(i, filled(x))
		}
		d.Flush()
		all = append(all, d)
	}
	for sets := range 5 {
		d, s := made(t, 100)
		for k := range sets {
			s.Set(int64(k), 77)
		}
		all = append(all, d)
		for i := range 2 {
			c := d.Crash()
			c.Write(i, filled(3))
			c.Flush()
			all = append(all, c)
		}
	}
	return all
}

func TestMakeOnWhatWasUsed(t *testing.T) {
	for _, d := range used(t) {
		s, e := slot.Make(d, 9)
		wantErr(t, "Make", e, api.OK)
		wantTold(t, "Make on what was used", d, 9)
		s.Set(10)
		wantTold(t, "Set behind it", d, 10)
	}
}

// crashes goes through all crashes within a call: power goes behind each number of calls of the device, and each choice of the loose sectors stays. Ahead of the call the sectors of loose are written.
func crashes(t *testing.T, of string, start *dev.Dev, loose []int, call func(*dev.Dev) api.Errno, want string) {
	t.Helper()
	was := told(t, start)
	for fuse := 0; ; fuse++ {
		if fuse > 20 {
			t.Fatalf("%s: does not end", of)
		}
		d := start.Crash()
		for _, i := range loose {
			d.Write(i, filled(42))
		}
		d.Fuse(fuse)
		e := call(d)
		for _, keep := range keeps(len(d.Loose())) {
			c := d.Crash(keep...)
			got := told(t, c)
			if got != want && (e == api.OK || got != was) {
				t.Errorf("P4.1: %s, a Fuse of %d, kept %v: %v, %s; it was %s", of, fuse, keep, e, got, was)
			}
			wantGoesOn(t, c)
		}
		if e == api.OK {
			wantLasting(t, of, d, loose)
			return
		}
		wantErr(t, of, e, api.ErrDown)
	}
}

// wantLasting holds against a device all of whose sectors last.
func wantLasting(t *testing.T, of string, d *dev.Dev, filledOnes []int) {
	t.Helper()
	if len(d.Loose()) != 0 {
		t.Errorf("P4.1: %s: %v are loose", of, d.Loose())
	}
	for _, i := range filledOnes {
		if b, _ := d.Crash().Read(i); !bytes.Equal(b, filled(42)) {
			t.Errorf("P4.1: %s: what was loose in %d does not last", of, i)
		}
	}
}

// wantGoesOn holds a device behind a crash against one that can be used.
func wantGoesOn(t *testing.T, c *dev.Dev) {
	t.Helper()
	s, _, e := slot.Open(c)
	if e != api.OK {
		s, e = slot.Make(c, 1)
		wantErr(t, "Make behind a crash", e, api.OK)
	}
	for k := range int64(3) {
		wantErr(t, "Set behind a crash", s.Set(k, -1), api.OK)
		if got := told(t, c.Crash()); got != fmt.Sprint([]int64{k, -1}) {
			t.Errorf("P4.1: Set behind a crash: %s", got)
		}
	}
}

func TestCrashWithinMake(t *testing.T) {
	for k, d := range used(t) {
		for _, loose := range [][]int{nil, {2}, {9, 63, 30}} {
			crashes(t, fmt.Sprint("Make on ", k), d, loose, func(d *dev.Dev) api.Errno {
				s, e := slot.Make(d, 66, 67)
				if (s == nil) != (e != api.OK) {
					t.Errorf("P0.2: Make: %v, %v", s, e)
				}
				return e
			}, "[66 67]")
		}
	}
}

func TestCrashWithinSet(t *testing.T) {
	for k, d := range used(t) {
		if told(t, d) == none {
			continue
		}
		for _, loose := range [][]int{nil, {2}, {9, 63, 30}} {
			for _, ns := range [][]int64{nil, {55}, {1, -2, math.MaxInt64, math.MinInt64}} {
				crashes(t, fmt.Sprint("Set on ", k), d, loose, func(d *dev.Dev) api.Errno {
					s, _, e := slot.Open(d)
					wantErr(t, "Open", e, api.OK)
					e = s.Set(ns...)
					if e != api.OK {
						wantErr(t, "Set for good", s.Set(1), api.ErrDown)
						wantErr(t, "Set of none for good", s.Set(), api.ErrDown)
					}
					return e
				}, fmt.Sprint(ns))
			}
		}
	}
}

// TestCrashBehindCrash lets power go again and again within Makes and Sets, and holds what lasts against what may.
func TestCrashBehindCrash(t *testing.T) {
	draw := rand.New(rand.NewPCG(9, 10))
	for range 300 {
		d, was := dev.New(64), none
		for k := range int64(40) {
			s, _, e := slot.Open(d)
			d.Fuse(draw.IntN(6))
			if e != api.OK || draw.IntN(4) == 0 {
				_, e = slot.Make(d, k, -k)
			} else {
				e = s.Set(k, -k)
			}
			d = d.Crash(draw.IntN(2) == 0, draw.IntN(2) == 0)
			got, want := told(t, d), fmt.Sprint([]int64{k, -k})
			if got != want && (e == api.OK || got != was) {
				t.Fatalf("P4.1: %v, %s behind %s", e, got, was)
			}
			was = got
		}
	}
}

func TestOtherSectorsStay(t *testing.T) {
	d := dev.New(64)
	for i := range 64 {
		d.Write(i, filled(byte(100+i)))
	}
	s, _ := slot.Make(d, 1, 2, 3, 4)
	for k := range int64(5) {
		s.Set(k, math.MaxInt64, math.MinInt64)
	}
	slot.Open(d)
	for i := 2; i < 64; i++ {
		if b, _ := d.Crash().Read(i); !bytes.Equal(b, filled(byte(100+i))) {
			t.Errorf("P4.1: sector %d is written", i)
		}
	}
}

func TestOpenWritesNothing(t *testing.T) {
	d, _ := made(t, 5)
	d.Write(9, filled(1))
	d.Fuse(1)
	for range 5 {
		told(t, d)
	}
	if d.Down() || !slices.Equal(d.Loose(), []int{9}) {
		t.Error("P4.1: Open writes or flushes")
	}
}

// TestSeveralSlotsOfADevice sets by one and the other: the last one counts.
func TestSeveralSlotsOfADevice(t *testing.T) {
	d, s := made(t, 1)
	x, _, _ := slot.Open(d)
	y, _ := slot.Make(d, 2)
	draw := rand.New(rand.NewPCG(11, 12))
	for k := range int64(200) {
		wantErr(t, "Set", []*slot.Slots{s, x, y}[draw.IntN(3)].Set(k), api.OK)
		wantTold(t, "several", d, k)
	}
}

func TestDevicesAreApart(t *testing.T) {
	d, s := made(t, 1)
	c := d.Crash()
	x, _, _ := slot.Open(c)
	s.Set(2)
	x.Set(3)
	wantTold(t, "one", d, 2)
	wantTold(t, "the other", c, 3)
}

func TestListsAreNotShared(t *testing.T) {
	room := []int64{1, 2, 3, 4, 5, 6}
	d, s := made(t, room[:2]...)
	s.Set(room[2:4]...)
	if !slices.Equal(room, []int64{1, 2, 3, 4, 5, 6}) {
		t.Error("P0.3: a list that is handed in is changed")
	}
	room[2] = 99
	wantTold(t, "a list that is changed behind it", d, 3, 4)

	_, one, _ := slot.Open(d)
	_, two, _ := slot.Open(d)
	for k := range one[:cap(one)] {
		one[:cap(one)][k] = 77
	}
	if !slices.Equal(two, []int64{3, 4}) {
		t.Error("P0.3: two answers share memory")
	}
	wantTold(t, "an answer that is written into", d, 3, 4)
}
