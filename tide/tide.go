// Package tide: windows over events that come in no order: see DOC.md.
package tide

import "slices"

// Errno is what a call answers: OK or the reason for a refusal.
type Errno int

const (
	OK       Errno = 0
	ErrArg   Errno = 1 // what may not be handed in
	ErrPart  Errno = 2 // a part that there is not
	ErrEnded Errno = 3 // a part that has ended
)

// Config is how a flow counts.
type Config struct{ Size, Slide, Bound, Idle, Parts, Fold int }

// Event is what happened.
type Event struct {
	Part  int
	Key   string
	At    int
	Value int
}

// Pane is a window, a key, and what was counted.
type Pane struct {
	Start, End int
	Key        string
	N          int
}

// Flow counts events. Make it by New.
type Flow struct {
	config Config
	parts  []part
	wheel  wheel
	told   []Pane
	late   []Event
}

// Windows tells the windows that have a time (P2).
func Windows(at int, size int, slide int) ([]int, Errno) {
	if !goodWidths(size, slide) {
		return nil, ErrArg
	}
	return begins(at, size, slide), OK
}

// New makes a flow (P3).
func New(c Config) (*Flow, Errno) {
	if !good(c) {
		return nil, ErrArg
	}
	return &Flow{config: c, parts: newParts(c.Parts), wheel: newWheel()}, OK
}

// Put takes events (P4).
func (f *Flow) Put(events ...Event) (int, Errno) {
	return oneByOne(events, f.take)
}

// Tick lets time pass (P6).
func (f *Flow) Tick(n int) Errno {
	if !within(n, 0, maxTicks) {
		return ErrArg
	}
	for range n {
		f.tick()
	}
	return OK
}

// End ends parts (P7).
func (f *Flow) End(parts ...int) (int, Errno) {
	return oneByOne(parts, f.end)
}

// Mark tells the mark (P8).
func (f *Flow) Mark() int {
	if f == nil {
		return 0
	}
	return f.wheel.mark
}

// Panes tells all panes that were told (P8).
func (f *Flow) Panes() []Pane {
	if f == nil {
		return nil
	}
	return slices.Clone(f.told)
}

// Late tells all late events (P8).
func (f *Flow) Late() []Event {
	if f == nil {
		return nil
	}
	return slices.Clone(f.late)
}

// Merge counts whole streams (P9).
func Merge(c Config, streams ...[]Event) ([]Pane, []Event, Errno) {
	if !good(c) || len(streams) != c.Parts {
		return nil, nil, ErrArg
	}
	panes, dropped := merge(c, streams)
	return panes, dropped, OK
}
