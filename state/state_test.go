package state

import (
	"slices"
	"testing"

	"ripple/api"
)

func TestOfWrongList(t *testing.T) {
	if m, err := Of([]api.Atom{{Type: api.Grow, Key: "a"}, {}}); m != nil || err != api.ErrAtom {
		t.Errorf("Of = %v, %d", m, err)
	}
	if m, err := Of(nil); m == nil || len(m) != 0 || err != api.OK {
		t.Errorf("Of nothing = %v, %d: it must be a state that can be added to", m, err)
	}
}

func TestIsType(t *testing.T) {
	for kind, want := range []bool{false, true, true, true, true, true, false} {
		if IsType(kind) != want || IsType(-kind) && kind != 0 {
			t.Errorf("IsType(%d) = %v, of its negative %v", kind, IsType(kind), IsType(-kind))
		}
	}
}

// TestSplitAndUnite: nothing of an atom is lost between slot and grade.
func TestSplitAndUnite(t *testing.T) {
	for _, a := range []api.Atom{
		{Type: api.Count, Key: "a", Who: 5, N: 7},
		{Type: api.Net, Key: "a", Side: 1, Who: 5, N: 7},
		{Type: api.Grow, Key: "a", Elem: "x"},
		{Type: api.Two, Key: "a", Side: 1, Elem: "x"},
		{Type: api.Last, Key: "a", Who: 5, Elem: "x", N: 7},
	} {
		slot, grade := split(a)
		if back := unite(slot, grade); back != a {
			t.Errorf("%+v comes back as %+v", a, back)
		}
		if alone := (Slot{Type: api.Last, Key: "a"}); a.Type == api.Last && slot != alone {
			t.Errorf("P3: the slot of %+v is %+v", a, slot)
		}
	}
}

func TestThinAndNarrow(t *testing.T) {
	all := []api.Atom{
		{Type: api.Count, Key: "a", N: 2},
		{Type: api.Count, Key: "b", N: 2},
		{Type: api.Grow, Key: "a", Elem: "x"},
		{Type: api.Grow, Key: "a", Elem: "y"},
	}
	m, _ := Of(all)
	other, _ := Of([]api.Atom{{Type: api.Count, Key: "a", N: 1}, {Type: api.Count, Key: "b", N: 2}, all[2], {Type: api.Grow, Key: "c"}})
	m.Thin(other)
	if told := m.Tell(); !slices.Equal(told, []api.Atom{all[0], all[3]}) {
		t.Errorf("Thin leaves %v", told)
	}
	if len(other) != 4 {
		t.Errorf("Thin has changed the other state: %v", other)
	}
	m.Narrow(api.Grow, "a")
	if told := m.Tell(); !slices.Equal(told, all[3:]) {
		t.Errorf("Narrow leaves %v", told)
	}
	m.Narrow(api.Grow, "b")
	if told := m.Tell(); told != nil {
		t.Errorf("Narrow leaves %v of what is not there", told)
	}
}
