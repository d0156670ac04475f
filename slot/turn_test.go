package slot

import (
	"slices"
	"testing"

	"fieldfare/api"
	"fieldfare/dev"
)

// holding gives a device with these in its slots.
func holding(first, second content) *dev.Dev {
	d := dev.New(64)
	d.Write(0, sector(first))
	d.Write(1, sector(second))
	d.Flush()
	return d
}

// wantNumbers holds what lasts against what should.
func wantNumbers(t *testing.T, of string, d *dev.Dev, want ...int64) {
	t.Helper()
	if _, ns, e := Open(d.Crash()); e != api.OK || !slices.Equal(ns, want) {
		t.Errorf("P4.1: %s: %v, %v, not %v", of, ns, e, want)
	}
}

// TestTurnsGoRound begins on a device whose turns are at their end: Sets and Makes last as ever.
func TestTurnsGoRound(t *testing.T) {
	for _, turn := range []int64{0, 1, turns / 2, turns - 3, turns - 2, turns - 1} {
		older, last := content{turn, []int64{-1}}, content{after(turn), []int64{-2}}
		for k, d := range []*dev.Dev{holding(older, last), holding(last, older), holding(last, last)} {
			wantNumbers(t, "Open", d, -2)
			s, _, _ := Open(d)
			for n := range int64(6) {
				s.Set(n)
				wantNumbers(t, "Set", d, n)
			}
			if _, e := Make(d, int64(k)); e != api.OK {
				t.Errorf("P4.1: Make: %v", e)
			}
			wantNumbers(t, "Make", d, int64(k))
		}
	}
}

// TestTurnBesideNone has one slot alone, of any turn, and noughts in the other.
func TestTurnBesideNone(t *testing.T) {
	for _, turn := range []int64{0, 1, turns/2 - 1, turns / 2, turns/2 + 1, turns - 1} {
		for at := range 2 {
			d := dev.New(64)
			d.Write(at, sector(content{turn, []int64{8, 9}}))
			d.Flush()
			wantNumbers(t, "Open", d, 8, 9)
			s, _, _ := Open(d)
			s.Set(10)
			wantNumbers(t, "Set", d, 10)
		}
	}
}

func TestTurnThatIsNone(t *testing.T) {
	for _, turn := range []int64{-1, -1 << 63, turns, 1<<63 - 1} {
		d := holding(content{turn, []int64{1}}, content{turn, nil})
		if _, _, e := Open(d); e != api.ErrCorrupt {
			t.Errorf("P4.1: Open of turn %d: %v", turn, e)
		}
		Make(d, 3)
		wantNumbers(t, "Make", d, 3)
	}
}

func TestCountThatIsNone(t *testing.T) {
	five := content{1, []int64{1, 2, 3, 4, 5}}
	if _, _, e := Open(holding(five, five)); e != api.ErrCorrupt {
		t.Errorf("P4.1: Open of five: %v", e)
	}
}

// TestWidestFits: what does not fit would be cut off.
func TestWidestFits(t *testing.T) {
	widest := content{turns - 1, []int64{-1 << 63, -1 << 63, -1 << 63, -1 << 63}}
	if c, ok := load(holding(widest, widest), 0); !ok || c.turn != widest.turn || !slices.Equal(c.ns, widest.ns) {
		t.Errorf("P4.1: %v, %v", c, ok)
	}
}
