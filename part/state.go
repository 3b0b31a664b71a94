package part

import (
	"countwheel/api"
	"countwheel/cells"
	"countwheel/mode"
)

// state is what may become of a partition. A Part embeds it, so that its exported methods are the Part's.
type state struct {
	mode, starts, cause int
	cells               *cells.Cells
}

// loaded is the state of a partition that was loaded: as if it had started cold, once.
func loaded(l []api.Cell) state {
	return state{mode: api.Cold, starts: 1, cause: Began, cells: cells.New(l)}
}

// Mode is the partition's.
func (s *state) Mode() int { return s.mode }

// Starts is how often it started.
func (s *state) Starts() int { return s.starts }

// Cause is why it started last.
func (s *state) Cause() int { return s.cause }

// come lets the partition come to a change's mode, and start as that says; it tells whether it started.
func (s *state) come(c mode.Change, cause int) bool {
	s.mode = c.Mode
	switch c.Start {
	case mode.WarmStart:
		s.cells.Warm()
	case mode.ColdStart:
		s.cells.Cold()
	default:
		return false
	}
	s.starts++
	s.cause = cause
	return true
}

// SetMode asks for a mode.
func (s *state) SetMode(want int) api.Code {
	c := mode.Set(s.mode, want)
	if c.Code == api.NoError {
		s.come(c, Itself)
	}
	return c.Code
}

// Act does what a change of schedules says.
func (s *state) Act(action int) bool {
	// What doesn't start it leaves its mode, too, so that nothing is done then.
	return s.come(mode.Act(s.mode, action), Changed)
}

// told is the code of a call for a cell, of a partition that runs, if that is there.
func told(there bool) api.Code {
	if !there {
		return api.InvalidParam
	}
	return api.NoError
}

// Read is a cell's number.
func (s *state) Read(i int) (uint32, api.Code) {
	if !mode.Runs(s.mode) {
		return 0, api.InvalidMode
	}
	v, there := s.cells.Get(i)
	return v, told(there)
}

// Write gives a cell a number.
func (s *state) Write(i int, v uint32) api.Code {
	if !mode.Runs(s.mode) {
		return api.InvalidMode
	}
	return told(s.cells.Set(i, v))
}
