package typing_test

import (
	"testing"

	"keystone/api"
	"keystone/typing"
)

// P1102: as many frames, each below the other one's; Frame{} is below all.
func TestBelow(t *testing.T) {
	w := five.world(t)
	for _, x := range []struct {
		a, b string
		want bool
	}{
		{"", "", true},
		{"-", "-", true},
		{"-", "top | num | nil", true},
		{"top | num | nil", "-", false},
		{"-\n-", "top | |\n-", true},
		{"top | |\n-", "-\n-", false},
		{"-\ntop | |", "top | |\n-", false},
		{"top | num LD; | nil", "top | num LD; | nil", true},
		{"top | num LD; | nil", "top | top LA; | LB;", true},
		{"top | top LA; | LB;", "top | num LD; | nil", false},
		{"top | num LD; | nil", "top | num LB; | nil", false},
		{"top | num LD; | nil", "top | num LD; | num", false},
		{"top | num LF; |", "top | num LI; |", false}, // by Super alone
		{"M! | |", "top | |", true},
		{"top | |", "M! | |", false},
		{"top | |", "top | num |", false},
		{"top | num |", "top | num | num", false},
		{"top | num | num", "top | num num |", false},
		// One frame counts, wherever it stands.
		{"top | LB; |\ntop | LB; |\ntop | LB; |", "top | LA; |\ntop | LB; |\ntop | top |", true},
		{"top | LB; |\ntop | LB; |\ntop | LB; |", "top | LC; |\ntop | LB; |\ntop | top |", false},
		{"top | LB; |\ntop | LB; |\ntop | LB; |", "top | LA; |\ntop | LC; |\ntop | top |", false},
		{"top | LB; |\ntop | LB; |\ntop | LB; |", "top | LA; |\ntop | LB; |\ntop | LC; |", false},
		{"top | LB; |\ntop | LA; |", "top | LA; |\ntop | LB; |", false},
		// Frames of unlike depths in one row.
		{"top | | num\ntop | |", "top | | top\ntop | |", true},
		{"top | | num\ntop | |", "top | |\ntop | | num", false},
		// Unlike lengths, whatever is in them.
		{"", "-", false},
		{"-", "", false},
		{"-", "-\n-", false},
		{"-\n-", "-", false},
		{"top | |", "top | |\n-", false},
		{"top | |\n-", "top | |", false},
		{"top | |\ntop | |", "top | |", false},
	} {
		a, b := framesOf(x.a), framesOf(x.b)
		if got := typing.Below(w, a, b); got != x.want {
			t.Errorf("%s below %s: %v", x.a, x.b, got)
		}
		if !typing.Below(w, a, a) || !typing.Below(w, b, b) || !typing.Below(w, make([]api.Frame, len(a)), a) {
			t.Errorf("%s, %s: not below themselves, or nothing is not below them", x.a, x.b)
		}
	}
	// No list and an empty one are the same.
	empty := []api.VType{}
	if !typing.Below(w, nil, []api.Frame{}) || !typing.Below(w, []api.Frame{}, nil) || typing.Below(w, nil, []api.Frame{{}}) {
		t.Error("no frames")
	}
	if !typing.Below(w, []api.Frame{{Locals: empty, Stack: empty}}, []api.Frame{{}}) || !typing.Below(w, []api.Frame{{Self: top, Locals: empty}}, []api.Frame{{Self: top, Stack: empty}}) {
		t.Error("empty lists")
	}
}
