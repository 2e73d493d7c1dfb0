// Package whole tests what is promised of several layers together.
package whole

import (
	"strconv"
	"testing"

	"ravelin/api"
	"ravelin/value"
	"ravelin/vm"
)

// brief writes a result: how it ended, with what or where, and what was put out.
func brief(r api.Result) string {
	s := []string{"done ", "error ", "blame ", "stop ", "fuel", "frames", "cells", "bytes"}[r.End]
	switch r.End {
	case api.EndDone, api.EndError:
		s += value.Show(r.Value)
	case api.EndBlame, api.EndStop:
		s += strconv.Itoa(r.At) + " " + strconv.Itoa(r.Side)
	}
	for _, e := range r.Events {
		s += "; " + strconv.Itoa(e.Channel) + ":" + value.Show(api.Value{Kind: e.Kind, N: e.N, S: e.S})
	}
	return s
}

func run(t *testing.T, x api.Image, in api.Inputs, lim api.Limits) api.Result {
	t.Helper()
	r, e := vm.Run(x, in, lim)
	if e != api.OK {
		t.Fatal(e)
	}
	if r.Done > lim.Fuel {
		t.Error(r.Done)
	}
	return r
}
