package tide

import "strings"

// part is what a flow keeps of one of its parts.
type part struct {
	silence
	greatest int // the greatest time so far
	ended    bool
}

func newParts(n int) []part {
	parts := make([]part, n)
	for i := range parts {
		parts[i].greatest = minTime
	}
	return parts
}

// oneByOne does items up to the first that is refused, and tells how many were done.
func oneByOne[T any](items []T, do func(T) Errno) (int, Errno) {
	for i, item := range items {
		if refused := do(item); refused != OK {
			return i, refused
		}
	}
	return len(items), OK
}

// refusal tells why a part can't do any more, or OK. A nil flow, as New
// answers it beside an error, has no part.
func (f *Flow) refusal(number int) Errno {
	switch {
	case f == nil || !within(number, 0, len(f.parts)-1):
		return ErrPart
	case f.parts[number].ended:
		return ErrEnded
	}
	return OK
}

func (f *Flow) take(e Event) Errno {
	if refused := f.refusal(e.Part); refused != OK {
		return refused
	}
	// A key may be a piece of a far longer text of the caller's, which the flow must not hold on to.
	e.Key = strings.Clone(e.Key)
	p := &f.parts[e.Part]
	p.breakSilence()
	if !f.count(e) {
		f.late = append(f.late, e)
	}
	p.greatest = max(p.greatest, e.At)
	f.moveMark()
	return OK
}

// count counts an event in its windows that are not over, and tells whether there was one.
func (f *Flow) count(e Event) bool {
	counted := false
	for _, begin := range begins(e.At, f.config.Size, f.config.Slide) {
		end := begin + f.config.Size
		if end > f.wheel.mark {
			f.wheel.waiting(end).add(e.Key, e.Value, f.config.Fold)
			counted = true
		}
	}
	return counted
}

func (f *Flow) end(number int) Errno {
	if refused := f.refusal(number); refused != OK {
		return refused
	}
	f.parts[number].ended = true
	f.moveMark()
	return OK
}

// tick lets one tick pass. The mark moves with each tick, since a part may
// hold it up at one tick and be idle at the next.
func (f *Flow) tick() {
	if f == nil {
		return
	}
	for i := range f.parts {
		if p := &f.parts[i]; !p.ended {
			p.lengthen()
		}
	}
	f.moveMark()
}

func (f *Flow) moveMark() {
	f.wheel.turn(f.allowed(), func(end int, t tally) {
		f.told = append(f.told, t.panes(end-f.config.Size, end)...)
	})
}

// allowed is the time up to which the parts let the mark go: the mark itself,
// if there are only idle parts beside those that have ended.
func (f *Flow) allowed() int {
	least, allEnded, heard := maxTime, true, false
	for _, p := range f.parts {
		if p.ended {
			continue
		}
		allEnded = false
		if !p.isIdle(f.config.Idle) {
			heard = true
			least = min(least, less(p.greatest, f.config.Bound))
		}
	}
	if allEnded || heard {
		return least
	}
	return f.wheel.mark
}
