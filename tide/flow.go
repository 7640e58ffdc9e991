package tide

import (
	"maps"
	"slices"
	"strings"
)

// part is what a flow keeps of one of its parts.
type part struct {
	greatest int // the greatest time so far
	silent   int // for how many ticks
	ended    bool
}

func newParts(n int) []part {
	parts := make([]part, n)
	for i := range parts {
		parts[i].greatest = minTime
	}
	return parts
}

// oneByOne does items up to the first that is refused, and tells how many were done.
func oneByOne[T any](items []T, do func(T) Errno) (int, Errno) {
	for i, item := range items {
		if refused := do(item); refused != OK {
			return i, refused
		}
	}
	return len(items), OK
}

// refusal tells why a part can't do any more, or OK. A nil flow, as New
// answers it beside an error, has no part.
func (f *Flow) refusal(number int) Errno {
	switch {
	case f == nil || !within(number, 0, len(f.parts)-1):
		return ErrPart
	case f.parts[number].ended:
		return ErrEnded
	}
	return OK
}

func (f *Flow) take(e Event) Errno {
	if refused := f.refusal(e.Part); refused != OK {
		return refused
	}
	// A key may be a piece of a far longer text of the caller's, which the flow must not hold on to.
	e.Key = strings.Clone(e.Key)
	p := &f.parts[e.Part]
	p.silent = 0
	if !f.count(e) {
		f.late = append(f.late, e)
	}
	p.greatest = max(p.greatest, e.At)
	f.moveMark()
	return OK
}

// count counts an event in its windows that are not over, and tells whether there was one.
func (f *Flow) count(e Event) bool {
	counted := false
	for _, begin := range begins(e.At, f.config.Size, f.config.Slide) {
		end := begin + f.config.Size
		if end > f.wheel.mark {
			f.wheel.waiting(end).add(e.Key, e.Value, f.config.Fold)
			counted = true
		}
	}
	return counted
}

func (f *Flow) end(number int) Errno {
	if refused := f.refusal(number); refused != OK {
		return refused
	}
	f.parts[number].ended = true
	f.moveMark()
	return OK
}

func (f *Flow) moveMark() {
	f.wheel.turn(f.allowed(), f.tell)
}

// allowed is the time up to which the parts let the mark go: the mark itself,
// if there are only idle parts beside those that have ended.
func (f *Flow) allowed() int {
	least, allEnded, heard := maxTime, true, false
	for _, p := range f.parts {
		if p.ended {
			continue
		}
		allEnded = false
		if !f.idle(p) {
			heard = true
			least = min(least, less(p.greatest, f.config.Bound))
		}
	}
	if allEnded || heard {
		return least
	}
	return f.wheel.mark
}

func (f *Flow) idle(p part) bool {
	return f.config.Idle > 0 && p.silent >= f.config.Idle
}

func (f *Flow) tell(end int, t tally) {
	for _, key := range slices.Sorted(maps.Keys(t)) {
		f.told = append(f.told, Pane{end - f.config.Size, end, key, t[key]})
	}
}
