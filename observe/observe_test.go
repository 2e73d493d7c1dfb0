package observe_test

import (
	"testing"

	"ravelin/api"
	"ravelin/check"
	"ravelin/lower"
	"ravelin/observe"
	"ravelin/parse"
	"ravelin/run"
)

var wide = api.Limits{Fuel: 1000, Frames: 10, Cells: 100, Bytes: 100}

const secret = "channel 1 = 1 write(0, 7) local x = read(1) if x == 1 then write(0, 8) end write(1, x)"

// P27.1, P27.4
func TestSource(t *testing.T) {
	for see := range api.Label(4) {
		for _, lim := range []api.Limits{{}, {Fuel: 3}, wide} {
			if is, at, e := observe.Source(secret, api.Inputs{1: {1}}, api.Inputs{1: {2}}, wide, lim, see); !is || at != 0 || e != api.OK {
				t.Error(see, is, at, e)
			}
		}
	}
	if is, _, e := observe.Source("write(0, read(0))", api.Inputs{{1}}, api.Inputs{{2}}, wide, wide, 0); !is || e != api.OK {
		t.Error("inputs that aren't alike", e)
	}
	for _, s := range []string{"local x: int = \"\"", "local x x", "x()", "break", "!"} {
		_, at, e := run.Source(s, api.Inputs{}, wide)
		if is, at2, e2 := observe.Source(s, api.Inputs{1: {1}}, api.Inputs{}, wide, wide, 0); is || at2 != at || e2 != e || e == api.OK {
			t.Error(s, is, at2, e2)
		}
	}
}

// P27.2
func TestImage(t *testing.T) {
	l, e, _, _ := check.Source(secret)
	x, _, _ := lower.Program(l, e)
	for see := range api.Label(4) {
		if is, e := observe.Image(x, api.Inputs{1: {1}}, api.Inputs{1: {2}}, wide, wide, see); !is || e != api.OK {
			t.Error(see, is, e)
		}
	}
	if is, e := observe.Image(api.Image{}, api.Inputs{}, api.Inputs{}, wide, wide, 0); is || e != api.ErrImage {
		t.Error(is, e)
	}
	if is, e := observe.Image(api.Image{}, api.Inputs{{1}}, api.Inputs{}, wide, wide, 0); is || e != api.ErrImage {
		t.Error("an error is told ahead of inputs that aren't alike", is, e)
	}
}

// P27.3
func TestMasks(t *testing.T) {
	l, _, _ := parse.Program("channel 1 = 5 channel 0 = -1 channel 7 = 0x8000000000000000 write(0, 1)")
	if got := observe.Masks(l); got != [8]api.Label{0: ^api.Label(0), 1: 5, 7: 1 << 63} {
		t.Error(got)
	}
	for _, l := range [][]api.Node{nil, l[:2], {{Kind: api.NChannel, Text: "1 1"}}, {{Kind: api.NChannel, Text: "x"}, {Kind: api.NProgram, Kids: []int{0}}}} {
		if got := observe.Masks(l); got != [8]api.Label{} {
			t.Error(got)
		}
	}
}

// P27.5
func TestAll(t *testing.T) {
	const s = "channel 1 = 1 local x = read(1) write(0, 1) write(1, x) write(0, 2)"
	a, _, _ := run.Source(s, api.Inputs{1: {1}}, wide)
	b, _, _ := run.Source(s, api.Inputs{1: {2}}, wide)
	if a.End != api.EndDone || b.End != api.EndDone || len(a.Events) != 3 || len(b.Events) != 3 || a.Events[2] != b.Events[2] {
		t.Error(a, b)
	}
}
