package tide

import (
	"math/bits"
	"slices"
)

// A time is read as a number of levelCount digits.
const (
	digitBits  = 4
	slotCount  = 1 << digitBits
	levelCount = 64 / digitBits
)

// wheel holds the windows that wait for the mark to pass their ends. An end
// stands on the level of the highest digit in which it differs from the mark,
// in the slot of that digit: so a mark that moves far passes whole levels at
// once, and no end is moved more often than there are levels.
type wheel struct {
	mark    int
	tallies map[int]tally // by the ends of the windows that wait
	levels  [levelCount][slotCount][]int
}

func newWheel() wheel {
	return wheel{mark: minTime, tallies: map[int]tally{}}
}

// waiting finds or makes the tally of the window with that end, which must be greater than the mark.
func (w *wheel) waiting(end int) tally {
	t := w.tallies[end]
	if t == nil {
		t = tally{}
		w.tallies[end] = t
		w.place(end)
	}
	return t
}

func (w *wheel) place(end int) {
	level := levelBetween(w.mark, end)
	slot := &w.levels[level][digit(end, level)]
	*slot = append(*slot, end)
}

// turn moves the mark, if that is onward, and tells the windows that are over
// then, rising by their ends. What stands below the top digit that changes has
// all been passed; on its own level the slot of the new digit may hold ends on
// both sides of the mark.
func (w *wheel) turn(to int, tell func(end int, t tally)) {
	if to <= w.mark {
		return
	}
	top := levelBetween(w.mark, to)
	from, upTo := digit(w.mark, top), digit(to, top)
	w.mark = to
	for level := range top {
		w.drain(w.levels[level][:], tell)
	}
	w.drain(w.levels[top][from:upTo+1], tell)
}

// drain empties slots: ends that the mark has not passed find their place on a level further down.
func (w *wheel) drain(slots [][]int, tell func(end int, t tally)) {
	for _, ends := range slots {
		slices.Sort(ends)
		for _, end := range ends {
			if end > w.mark {
				w.place(end)
				continue
			}
			tell(end, w.tallies[end])
			delete(w.tallies, end)
		}
	}
	clear(slots)
}

// levelBetween is the level of the highest digit in which two times differ; they must differ.
func levelBetween(a, b int) int {
	return (bits.Len64(uint64(a)^uint64(b)) - 1) / digitBits
}

// digit turns the sign's bit over, so that the digits of times below 0 come ahead of the others.
func digit(at, level int) int {
	rank := uint64(at) ^ 1<<63
	return int((rank >> (level * digitBits)) % slotCount)
}
