package sched

import (
	"slices"

	"castellan/api"
)

// A state is a partition's.
type state struct {
	runs   bool
	starts int
}

// Table tells which partitions run.
type Table struct {
	states []state
}

// NewTable has so many partitions, none of which runs yet.
func NewTable(parts int) (*Table, api.Errno) {
	if parts < 0 || parts > api.MaxParts {
		return nil, api.ErrArg
	}
	return &Table{make([]state, parts)}, api.OK
}

// Enter is called when a partition's window begins: is it to be started anew?
func (t *Table) Enter(part int) (bool, api.Errno) {
	if !t.has(part) {
		return false, api.ErrArg
	}
	p := &t.states[part]
	if p.runs {
		return false, api.OK
	}
	p.runs = true
	p.starts++
	return true, api.OK
}

// Trap stops a partition, if it runs.
func (t *Table) Trap(part int) api.Errno {
	if !t.has(part) {
		return api.ErrArg
	}
	t.states[part].runs = false
	return api.OK
}

// Runs tells whether a partition runs.
func (t *Table) Runs(part int) bool {
	return t.has(part) && t.states[part].runs
}

// Starts tells how often a partition was started.
func (t *Table) Starts(part int) int {
	if !t.has(part) {
		return 0
	}
	return t.states[part].starts
}

// Clone is another one in the same state.
func (t *Table) Clone() *Table {
	return &Table{slices.Clone(t.states)}
}

func (t *Table) has(part int) bool {
	return part >= 0 && part < len(t.states)
}
