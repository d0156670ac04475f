package fail_test

import (
	"errors"
	"fmt"
	"slices"
	"strconv"
	"strings"
	"testing"

	"fieldfare/api"
	"fieldfare/fail"
)

// list is an error that can't be compared.
type list []string

func (l list) Error() string { return strings.Join(l, "+") }

// mask is an error that says by its methods Is and As that it is a number.
type mask struct{ code api.Errno }

func (m mask) Error() string         { return "mask" }
func (m mask) Is(target error) bool  { return target == error(m.code) }
func (m mask) As(target any) bool    { e, ok := target.(*api.Errno); return ok && m.put(e) }
func (m mask) put(e *api.Errno) bool { *e = m.code; return true }

// liar is an error that writes a number and says that it has none.
type liar struct{}

func (liar) Error() string { return "liar" }
func (liar) As(target any) bool {
	if e, ok := target.(*api.Errno); ok {
		*e = api.ErrFull
	}
	return false
}

// hollow panics at all methods if it is nil.
type hollow struct{ err error }

func (h *hollow) Error() string { return h.err.Error() }
func (h *hollow) Unwrap() error { return h.err }

// late is an error whose text changes.
type late struct{ text string }

func (l *late) Error() string { return l.text }

func numbers() []api.Errno {
	all := []api.Errno{-1, 13, 1 << 62, -1 << 63}
	for e := api.ErrForm; e <= api.ErrKind; e++ {
		all = append(all, e)
	}
	return all
}

func TestAtOfNone(t *testing.T) {
	var none error
	for k, err := range []error{nil, none, api.OK, api.Errno(0), fail.At("b", nil), fail.At("b", api.OK)} {
		for _, where := range []string{"", "a"} {
			if got := fail.At(where, err); got != nil {
				t.Errorf("P3.1: At of none, %d: %v", k, got)
			}
		}
	}
}

// An OK that stands inside another error is not OK itself.
func TestAtOfInnerOK(t *testing.T) {
	inner := fmt.Errorf("x: %w", api.OK)
	err := fail.At("a", inner)
	if err == nil || err.Error() != "a: x: ok" || fail.Code(err) != api.OK || fail.Is(err, api.OK) || !slices.Equal(fail.Where(err), []string{"a"}) {
		t.Errorf("P3.1: an OK inside: %v", err)
	}
	var e *api.Errno = new(api.Errno)
	if fail.At("a", e) == nil || fail.Code(fail.At("a", e)) != api.ErrForm {
		t.Error("P3.1: a pointer to an OK is no OK itself")
	}
}

func TestNumbers(t *testing.T) {
	for _, e := range numbers() {
		for _, where := range []string{"", "a", "a: b", "\xff\x00", strings.Repeat("long", 1000)} {
			once := fail.At(where, e)
			twice := fail.At("outer", once)
			if once.Error() != where+": "+e.Error() || twice.Error() != "outer: "+where+": "+e.Error() {
				t.Errorf("P3.1: text of %d: %q, %q", e, once, twice)
			}
			if fail.Code(once) != e || fail.Code(twice) != e || fail.Code(e) != e {
				t.Errorf("P3.1: Code of %d", e)
			}
			if !slices.Equal(fail.Where(once), []string{where}) || !slices.Equal(fail.Where(twice), []string{"outer", where}) || fail.Where(e) != nil {
				t.Errorf("P3.1: Where of %d: %q, %q", e, fail.Where(once), fail.Where(twice))
			}
			if errors.Unwrap(twice) != once || errors.Unwrap(once) != e {
				t.Errorf("P3.1: Unwrap of %d", e)
			}
		}
		for _, f := range append(numbers(), api.OK) {
			if fail.Is(e, f) != (e == f) || fail.Is(fail.At("a", e), f) != (e == f) || fail.Is(fmt.Errorf("%w", fail.At("a", e)), f) != (e == f) {
				t.Errorf("P3.1: Is of %d, %d", e, f)
			}
		}
	}
}

func TestNone(t *testing.T) {
	if fail.Code(nil) != api.OK || fail.Where(nil) != nil || !fail.Is(nil, api.OK) {
		t.Error("P3.1: of nil")
	}
	for _, e := range numbers() {
		if fail.Is(nil, e) {
			t.Errorf("P3.1: nil is %d", e)
		}
	}
	other := errors.New("other")
	for _, err := range []error{other, fail.At("a", other), list{"x"}, list(nil), errors.Join(other, list{"y"}), liar{}, fail.At("a", liar{})} {
		if fail.Code(err) != api.ErrForm {
			t.Errorf("P3.1: %v has a number", err)
		}
		for _, e := range append(numbers(), api.OK) {
			if fail.Is(err, e) {
				t.Errorf("P3.1: %v is %d", err, e)
			}
		}
	}
	if fail.Where(other) != nil || fail.Where(list{"x"}) != nil || fail.Where(fmt.Errorf("%w", fail.At("a", other))) != nil || fail.Where(errors.Join(fail.At("a", other))) != nil {
		t.Error("P3.1: Where of no At is not nil")
	}
}

// An OK that is no nil is still the outermost number; but it is not none.
func TestOKItself(t *testing.T) {
	if fail.Code(api.OK) != api.OK || fail.Is(api.OK, api.OK) || fail.Where(api.OK) != nil {
		t.Error("P3.1: of OK itself")
	}
}

func TestOutermost(t *testing.T) {
	both := errors.Join(fail.At("a", api.ErrFull), fail.At("b", api.ErrNone))
	if fail.Code(both) != api.ErrFull || !fail.Is(both, api.ErrFull) || !fail.Is(both, api.ErrNone) || fail.Is(both, api.ErrForm) || fail.Where(both) != nil {
		t.Error("P3.1: of joined ones")
	}
	around := fail.At("c", both)
	if fail.Code(around) != api.ErrFull || !fail.Is(around, api.ErrNone) || !slices.Equal(fail.Where(around), []string{"c"}) {
		t.Error("P3.1: of a place around joined ones")
	}
	masked := fail.At("d", mask{api.ErrLarge})
	if fail.Code(masked) != api.ErrLarge || !fail.Is(masked, api.ErrLarge) || fail.Is(masked, api.ErrKind) {
		t.Error("P3.1: of one that says by a method what it is")
	}
}

// Where stops at the first error between that is no At, and does not go on behind it.
func TestWhereStops(t *testing.T) {
	inner := fail.At("d", fail.At("e", api.ErrState))
	err := fail.At("a", fail.At("", fail.At("b", fmt.Errorf("c: %w", inner))))
	if !slices.Equal(fail.Where(err), []string{"a", "", "b"}) || !slices.Equal(fail.Where(inner), []string{"d", "e"}) || err.Error() != "a: : b: c: d: e: state" {
		t.Errorf("P3.1: %q, %q", fail.Where(err), err)
	}
}

func TestLooksThrough(t *testing.T) {
	other := errors.New("other")
	l := list{"x", "y"}
	err := fail.At("a", fail.At("b", l))
	var got list
	if !errors.As(err, &got) || got.Error() != "x+y" || errors.Is(err, other) || !errors.Is(err, err) || !errors.Is(fail.At("c", err), err) {
		t.Error("P3.1: errors.As and errors.Is of a list")
	}
	if errors.Is(fail.At("a", l), fail.At("a", l)) {
		t.Error("P3.1: two places are one")
	}
	if !errors.Is(fail.At("a", fmt.Errorf("%w", fail.At("b", other))), other) {
		t.Error("P3.1: errors.Is does not look through")
	}
	var number api.Errno
	if errors.As(fail.At("a", other), &number) || !errors.As(fail.At("a", api.ErrTwice), &number) || number != api.ErrTwice {
		t.Error("P3.1: errors.As of a number")
	}
}

func TestTextIsErrs(t *testing.T) {
	l := &late{"before"}
	err := fail.At("a", l)
	l.text = "behind"
	if err.Error() != "a: behind" {
		t.Errorf("P3.1: %q", err)
	}
}

func TestAnswersAreNew(t *testing.T) {
	err := fail.At("a", fail.At("b", fail.At("c", api.ErrNone)))
	one := fail.Where(err)
	for k := range one[:cap(one)] {
		one[:cap(one)][k] = "x"
	}
	if !slices.Equal(fail.Where(err), []string{"a", "b", "c"}) || err.Error() != "a: b: c: none" {
		t.Error("P0.3: Where's list is kept")
	}
	inner := fail.At("c", api.ErrNone)
	for _, where := range []string{"d", "e"} {
		fail.At(where, inner)
	}
	if !slices.Equal(fail.Where(inner), []string{"c"}) {
		t.Error("P0.3: At changes what it is put around")
	}
}

func TestNoPanic(t *testing.T) {
	var h *hollow
	var e *api.Errno
	for k, err := range []error{h, e, &hollow{}, fail.At("a", h), fail.At("a", e), fail.At("b", fail.At("a", &hollow{}))} {
		if fail.Code(err) != api.ErrForm || fail.Is(err, api.ErrForm) || fail.Is(err, api.OK) || fail.Is(err, api.ErrNone) {
			t.Errorf("P0.1, %d: a number", k)
		}
		if at := fail.At("z", err); !strings.HasPrefix(at.Error(), "z: ") || fail.Where(at)[0] != "z" {
			t.Errorf("P0.1, %d: %q", k, at)
		}
	}
}

func TestDeep(t *testing.T) {
	const n = 200000
	err := error(api.ErrCorrupt)
	for k := range n {
		err = fail.At(strconv.Itoa(k%10), err)
	}
	where := fail.Where(err)
	if len(where) != n || where[0] != "9" || where[n-1] != "0" || fail.Code(err) != api.ErrCorrupt || !fail.Is(err, api.ErrCorrupt) {
		t.Error("P3.1: of many places")
	}
	if s := err.Error(); len(s) != 3*n+len("corrupt") || !strings.HasPrefix(s, "9: 8: ") || !strings.HasSuffix(s, ": 0: corrupt") {
		t.Error("P3.1: the text of many places")
	}
}
