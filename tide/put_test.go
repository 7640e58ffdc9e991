package tide

import (
	"math"
	"testing"
)

func TestPutStopsAtTheFirstRefusal(t *testing.T) {
	f := mustNew(t, Config{Size: 10, Slide: 10, Parts: 2})
	for _, c := range []struct {
		events []Event
		n      int
		no     Errno
	}{
		{nil, 0, OK},
		{[]Event{event(2, "a", 1, 1)}, 0, ErrPart},
		{[]Event{event(-1, "a", 1, 1)}, 0, ErrPart},
		{[]Event{event(math.MaxInt, "a", 1, 1), event(0, "a", 1, 1)}, 0, ErrPart},
		{[]Event{event(math.MinInt, "a", 1, 1)}, 0, ErrPart},
		{[]Event{event(0, "a", 1, 1), event(1, "a", 2, 1), event(8, "a", 50, 1), event(0, "a", 60, 1)}, 2, ErrPart},
	} {
		if n, no := f.Put(c.events...); n != c.n || no != c.no {
			t.Errorf("P4: Put(%v) = %d, %d, want %d, %d", c.events, n, no, c.n, c.no)
		}
	}
	wantMark(t, f, 1)
	mustEnd(t, f, 1)
	n, no := f.Put(event(0, "a", 5, 1), event(1, "a", 6, 1), event(0, "a", 70, 1))
	if n != 1 || no != ErrEnded {
		t.Errorf("P4: Put for a part that has ended: %d, %d, want 1, ErrEnded", n, no)
	}
	wantMark(t, f, 5)
	mustEnd(t, f, 0)
	wantPanes(t, f, "[{0 10 a 3}]")
}

func TestPutTellsLateFromCounted(t *testing.T) {
	f := mustNew(t, Config{Size: 10, Slide: 5, Parts: 1})
	mustPut(t, f, event(0, "a", 14, 0))
	// The window from 0 ends at 10, which the mark has passed; the one from 5 is open.
	mustPut(t, f, event(0, "b", 9, 0))
	wantLate(t, f, "[]")
	// The windows from -5 and 0 are both over.
	mustPut(t, f, event(0, "c", 4, 7))
	wantLate(t, f, "[{0 c 4 7}]")
	mustEnd(t, f, 0)
	wantPanes(t, f, "[{5 15 a 1} {5 15 b 1} {10 20 a 1}]")
	wantLate(t, f, "[{0 c 4 7}]")
}

func TestPutAtTheEdgeOfTheMark(t *testing.T) {
	f := mustNew(t, plain)
	mustPut(t, f, event(0, "a", 9, 0), event(0, "a", 0, 0))
	wantLate(t, f, "[]")
	// A window whose end is the mark is over.
	mustPut(t, f, event(0, "b", 10, 0), event(0, "c", 9, 0))
	wantPanes(t, f, "[{0 10 a 2}]")
	wantLate(t, f, "[{0 c 9 0}]")
}

func TestPutOfALateEventCountsForTheMark(t *testing.T) {
	// Part 1 ran ahead while part 0 was idle: part 0's next event is late, and its greatest time all the same.
	f := mustNew(t, Config{Size: 10, Slide: 10, Idle: 1, Parts: 2})
	mustPut(t, f, event(0, "a", 3, 0), event(1, "a", 90, 0))
	mustTick(t, f, 1)
	mustPut(t, f, event(1, "a", 95, 0))
	wantMark(t, f, 95)
	mustPut(t, f, event(0, "b", 40, 0))
	wantLate(t, f, "[{0 b 40 0}]")
	if got := f.parts[0].greatest; got != 40 {
		t.Errorf("P4: a late event leaves the greatest time at %d, want 40", got)
	}
	// An event that has no window is late, and moves the mark all the same.
	f = mustNew(t, plain)
	mustPut(t, f, event(0, "a", 5, 0), event(0, "z", math.MaxInt, 0))
	wantMark(t, f, math.MaxInt)
	wantPanes(t, f, "[{0 10 a 1}]")
	wantLate(t, f, "[{0 z 9223372036854775807 0}]")
}

func TestPutKeepsTheGreatestTime(t *testing.T) {
	f := mustNew(t, Config{Size: 10, Slide: 10, Bound: 20, Parts: 1})
	mustPut(t, f, event(0, "a", 50, 0))
	wantMark(t, f, 30)
	mustPut(t, f, event(0, "a", 40, 0))
	wantMark(t, f, 30)
	mustPut(t, f, event(0, "a", 51, 0))
	wantMark(t, f, 31)
}

func TestPutAtTheEndsOfTime(t *testing.T) {
	f := mustNew(t, Config{Size: 3, Slide: 3, Parts: 1})
	mustPut(t, f, event(0, "none", math.MinInt, 0), event(0, "none", math.MinInt+1, 0))
	wantLate(t, f, "[{0 none -9223372036854775808 0} {0 none -9223372036854775807 0}]")
	wantMark(t, f, math.MinInt+1)
	mustPut(t, f, event(0, "first", math.MinInt+2, 0), event(0, "last", math.MaxInt-2, 0))
	mustEnd(t, f, 0)
	wantPanes(t, f, "[{-9223372036854775806 -9223372036854775803 first 1} {9223372036854775803 9223372036854775806 last 1}]")

	f = mustNew(t, Config{Size: 1, Slide: 1, Parts: 1})
	mustPut(t, f, event(0, "a", math.MinInt, 0), event(0, "b", -1, 0), event(0, "c", 0, 0), event(0, "d", math.MaxInt-1, 0))
	mustEnd(t, f, 0)
	wantPanes(t, f, "[{-9223372036854775808 -9223372036854775807 a 1} {-1 0 b 1} {0 1 c 1} {9223372036854775806 9223372036854775807 d 1}]")
	wantLate(t, f, "[]")
}

func TestPutWakesAnIdlePart(t *testing.T) {
	f := mustNew(t, Config{Size: 10, Slide: 10, Idle: 3, Parts: 2})
	mustTick(t, f, 3)
	mustPut(t, f, event(0, "a", 25, 0))
	wantMark(t, f, 25)
	mustPut(t, f, event(1, "a", 22, 0))
	// Part 1 is heard again: it holds the mark, which does not go back.
	wantMark(t, f, 25)
	mustPut(t, f, event(0, "a", 80, 0))
	wantMark(t, f, 25)
	mustPut(t, f, event(1, "a", 27, 0))
	wantMark(t, f, 27)
}

func TestFolds(t *testing.T) {
	for _, c := range []struct {
		fold   int
		values []int
		want   string
	}{
		{0, []int{7, -7, 0}, "[{0 10 k 3}]"},
		{1, []int{7, -9, 0}, "[{0 10 k -2}]"},
		{1, []int{math.MaxInt, 1}, "[{0 10 k -9223372036854775808}]"},
		{1, []int{math.MinInt, -1}, "[{0 10 k 9223372036854775807}]"},
		{2, []int{7, -9, 0}, "[{0 10 k -9}]"},
		{2, []int{7}, "[{0 10 k 7}]"},
		{2, []int{math.MaxInt}, "[{0 10 k 9223372036854775807}]"},
		{2, []int{0, math.MinInt, 5}, "[{0 10 k -9223372036854775808}]"},
		{3, []int{-7, -9, -8}, "[{0 10 k -7}]"},
		{3, []int{-7}, "[{0 10 k -7}]"},
		{3, []int{math.MinInt}, "[{0 10 k -9223372036854775808}]"},
	} {
		f := mustNew(t, Config{Size: 10, Slide: 10, Parts: 1, Fold: c.fold})
		for _, value := range c.values {
			mustPut(t, f, event(0, "k", 4, value))
		}
		mustEnd(t, f, 0)
		wantPanes(t, f, c.want)
	}
}
