package device_test

import (
	"bytes"
	"slices"
	"testing"

	"tideline/api"
	"tideline/device"
)

// place is a page as the document tells it: all of them are there, from 0 on.
type place struct {
	is    string // empty, whole or torn
	held  string
	fresh bool // it was written since the last Sync
}

// model is a device by the document's words, each of them done on all its pages.
type model []place

func newModel(pages int) model {
	m := make(model, pages)
	m.wipe()
	return m
}

func (m model) next() int {
	for n := len(m); n > 0; n-- {
		if m[n-1].is != "empty" {
			return n
		}
	}
	return 0
}

func (m model) free() int { return len(m) - m.next() }

func (m model) append(b string) api.Errno {
	n := m.next()
	if n == len(m) {
		return api.ErrFull
	}
	m[n] = place{"whole", b, true}
	return api.OK
}

func (m model) sync() {
	for n := range m {
		m[n].fresh = false
	}
}

func (m model) crash(picks []byte) {
	i := 0
	for n, p := range m {
		if !p.fresh {
			continue
		}
		var by byte
		if len(picks) > 0 {
			by = picks[i%len(picks)]
		}
		switch by % 3 {
		case 0:
			m[n] = place{is: "empty"}
		case 2:
			m[n] = place{is: "torn"}
		}
		i++
	}
	m.sync()
}

func (m model) wipe() {
	for n := range m {
		m[n] = place{is: "empty"}
	}
}

func (m model) pages() []string {
	var all []string
	for _, p := range m {
		if p.is == "whole" {
			all = append(all, p.held)
		}
	}
	return all
}

func (m model) twin() model {
	twin := slices.Clone(m)
	twin.sync()
	return twin
}

// texts gives pages' bytes as texts.
func texts(pages [][]byte) []string {
	var all []string
	for _, b := range pages {
		all = append(all, string(b))
	}
	return all
}

// pair is a device, and what the document says of it.
type pair struct {
	d *device.Device
	m model
}

func newPair(t testing.TB, pages int) pair {
	t.Helper()
	d, e := device.New(pages)
	if e != api.OK || d == nil {
		t.Fatalf("New(%d): %v, %d", pages, d, e)
	}
	return pair{d, newModel(pages)}
}

func (p pair) append(t testing.TB, b []byte) {
	t.Helper()
	if got, want := p.d.Append(b), p.m.append(string(b)); got != want {
		t.Fatalf("Append of %d bytes: %d, not %d", len(b), got, want)
	}
}

func (p pair) sync() {
	p.d.Sync()
	p.m.sync()
}

func (p pair) crash(t testing.TB, picks []byte) {
	t.Helper()
	was := slices.Clone(picks)
	p.d.Crash(picks)
	p.m.crash(was)
	if !bytes.Equal(picks, was) {
		t.Fatal("Crash changed what was handed in")
	}
}

func (p pair) wipe() {
	p.d.Wipe()
	p.m.wipe()
}

func (p pair) twin() pair { return pair{p.d.Twin(), p.m.twin()} }

// alike looks whether the device tells what the document does.
func (p pair) alike(t testing.TB, what any) {
	t.Helper()
	if got, want := texts(p.d.Pages()), p.m.pages(); !slices.Equal(got, want) {
		t.Fatalf("%v: the pages are %q, not %q", what, got, want)
	}
	if got, want := p.d.Free(), p.m.free(); got != want {
		t.Fatalf("%v: %d pages are free, not %d", what, got, want)
	}
}
