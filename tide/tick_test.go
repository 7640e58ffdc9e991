package tide

import (
	"fmt"
	"math"
	"testing"
)

func TestTickMakesSilentPartsIdle(t *testing.T) {
	f := mustNew(t, Config{Size: 10, Slide: 10, Bound: 2, Idle: 3, Parts: 2})
	mustPut(t, f, event(0, "a", 14, 0), event(1, "b", 35, 0))
	wantMark(t, f, 12)
	mustTick(t, f, 2)
	mustPut(t, f, event(1, "b", 36, 0))
	wantMark(t, f, 12)
	wantPanes(t, f, "[]")
	mustTick(t, f, 1)
	wantMark(t, f, 34)
	wantPanes(t, f, "[{10 20 a 1}]")
}

func TestPartsComeBack(t *testing.T) {
	f := mustNew(t, Config{Size: 10, Slide: 10, Idle: 2, Parts: 2})
	mustPut(t, f, event(0, "a", 5, 0))
	mustTick(t, f, 1)
	mustPut(t, f, event(0, "a", 25, 0))
	mustTick(t, f, 1)
	wantMark(t, f, 25)
	// Part 1 was idle. What it sends now is late where the mark has passed it, and holds the mark up from here on.
	mustPut(t, f, event(1, "b", 9, 0), event(1, "b", 28, 0), event(0, "a", 50, 0))
	wantMark(t, f, 28)
	wantLate(t, f, "[{1 b 9 0}]")
	mustTick(t, f, 1)
	mustPut(t, f, event(0, "a", 51, 0))
	wantMark(t, f, 28)
	mustTick(t, f, 1)
	wantMark(t, f, 51)
	mustPut(t, f, event(1, "b", 60, 0), event(0, "a", 70, 0))
	wantMark(t, f, 60)
	wantPanes(t, f, "[{0 10 a 1} {20 30 a 1} {20 30 b 1} {50 60 a 2}]")
}

func TestEventsBreakTheSilence(t *testing.T) {
	for _, c := range []struct {
		name string
		at   int
	}{
		{"counted", 105},
		{"below the greatest time", 101},
		{"late", 0},
		{"without a window", math.MinInt},
	} {
		f := mustNew(t, Config{Size: 10, Slide: 10, Idle: 4, Parts: 2})
		mustPut(t, f, event(0, "a", 102, 0), event(1, "a", 300, 0))
		mustTick(t, f, 3)
		mustPut(t, f, event(0, "a", c.at, 0), event(1, "a", 300, 0))
		mustTick(t, f, 3)
		mustPut(t, f, event(1, "a", 301, 0))
		if mark := f.Mark(); mark != max(102, c.at) {
			t.Errorf("P4, P6: %s: the mark is %d after 3 ticks, want %d", c.name, mark, max(102, c.at))
		}
		mustTick(t, f, 1)
		if mark := f.Mark(); mark != 301 {
			t.Errorf("P4, P6: %s: the mark is %d after 4 ticks, want 301", c.name, mark)
		}
	}
}

func TestRefusedEventsDoNotBreakTheSilence(t *testing.T) {
	f := mustNew(t, Config{Size: 10, Slide: 10, Idle: 2, Parts: 3})
	mustEnd(t, f, 2)
	mustPut(t, f, event(0, "a", 15, 0), event(1, "b", 40, 0))
	mustTick(t, f, 1)
	if n, no := f.Put(event(1, "b", 41, 0), event(2, "c", 50, 0), event(0, "a", 50, 0)); n != 1 || no != ErrEnded {
		t.Fatalf("P4: Put = %d, %d, want 1, ErrEnded", n, no)
	}
	wantMark(t, f, 15)
	mustTick(t, f, 1)
	wantMark(t, f, 41)
}

func TestTickOfWrongNumbers(t *testing.T) {
	f := mustNew(t, Config{Size: 10, Slide: 10, Idle: 1, Parts: 2})
	mustPut(t, f, event(0, "a", 15, 0))
	for _, n := range []int{-1, -1000, 1001, 1 << 32, math.MinInt, math.MaxInt} {
		if no := f.Tick(n); no != ErrArg {
			t.Errorf("P6: Tick(%d) = %d, want ErrArg", n, no)
		}
	}
	// No tick was done: part 1 is not idle, and holds the mark up.
	mustPut(t, f, event(0, "a", 25, 0))
	wantMark(t, f, math.MinInt)
	mustEnd(t, f, 0, 1)
	if no := f.Tick(1001); no != ErrArg {
		t.Errorf("P6: Tick(1001) = %d when all parts have ended, want ErrArg", no)
	}
}

func TestTickByNumbers(t *testing.T) {
	for _, c := range []struct{ idle, n, want int }{
		{0, 0, math.MinInt},
		{0, 1, math.MinInt},
		{0, 1000, math.MinInt},
		{1, 0, math.MinInt},
		{1, 1, 30},
		{1, 1000, 30},
		{2, 1, math.MinInt},
		{2, 2, 30},
		{2, 3, 30},
		{99, 98, math.MinInt},
		{99, 99, 30},
		{100, 99, math.MinInt},
		{100, 100, 30},
		{100, 101, 30},
		{100, 1000, 30},
	} {
		f := mustNew(t, Config{Size: 10, Slide: 10, Idle: c.idle, Parts: 2})
		mustTick(t, f, c.n)
		mustPut(t, f, event(0, "a", 30, 0))
		if mark := f.Mark(); mark != c.want {
			t.Errorf("P6: Idle %d, Tick(%d): the mark is %d, want %d", c.idle, c.n, mark, c.want)
		}
	}
}

func TestTicksAddUp(t *testing.T) {
	c := Config{Size: 10, Slide: 5, Bound: 3, Idle: 7, Parts: 3}
	for n := range 20 {
		at, apart := mustNew(t, c), mustNew(t, c)
		for _, f := range []*Flow{at, apart} {
			mustPut(t, f, event(0, "a", 12, 0))
			mustTick(t, f, 2)
			mustPut(t, f, event(1, "b", 44, 0))
			mustTick(t, f, 3)
			mustPut(t, f, event(2, "c", 29, 0))
		}
		mustTick(t, at, n)
		for range n {
			mustTick(t, apart, 0)
			mustTick(t, apart, 1)
		}
		got, want := fmt.Sprint(at.Mark(), at.Panes()), fmt.Sprint(apart.Mark(), apart.Panes())
		if got != want {
			t.Errorf("P6: Tick(%d): %s, but %s one by one", n, got, want)
		}
	}
}

// Between the first part's and the second's falling idle the mark moves, within one call.
func TestTheMarkMovesWithEachTick(t *testing.T) {
	f := mustNew(t, Config{Size: 10, Slide: 10, Bound: 1, Idle: 5, Parts: 3})
	mustPut(t, f, event(0, "a", 8, 0))
	mustTick(t, f, 1)
	mustPut(t, f, event(1, "b", 21, 0))
	mustTick(t, f, 1)
	mustPut(t, f, event(2, "c", 52, 0))
	wantMark(t, f, 7)
	mustTick(t, f, 1000)
	wantMark(t, f, 51)
	wantPanes(t, f, "[{0 10 a 1} {20 30 b 1}]")
}

func TestTheMarkStaysWhenAllAreIdle(t *testing.T) {
	f := mustNew(t, Config{Size: 10, Slide: 10, Idle: 1, Parts: 2})
	mustTick(t, f, 1)
	wantMark(t, f, math.MinInt)
	mustPut(t, f, event(0, "a", 11, 0))
	wantMark(t, f, 11)
	mustPut(t, f, event(1, "b", 99, 0))
	wantMark(t, f, 11)
	mustTick(t, f, 1)
	wantMark(t, f, 11)
	mustTick(t, f, 1000)
	wantMark(t, f, 11)
	wantPanes(t, f, "[]")
	mustPut(t, f, event(1, "b", 98, 0))
	wantMark(t, f, 99)
	wantPanes(t, f, "[{10 20 a 1}]")
}

func TestTickWithEndedParts(t *testing.T) {
	f := mustNew(t, Config{Size: 10, Slide: 10, Idle: 2, Parts: 3})
	mustPut(t, f, event(0, "a", 10, 0), event(1, "b", 20, 0), event(2, "c", 30, 0))
	mustEnd(t, f, 0)
	wantMark(t, f, 20)
	mustTick(t, f, 1)
	mustPut(t, f, event(2, "c", 31, 0))
	mustTick(t, f, 1)
	wantMark(t, f, 31)
	mustTick(t, f, 1)
	// Part 0 has ended and the others are idle: that is not the end of all parts.
	wantMark(t, f, 31)
	wantPanes(t, f, "[{10 20 a 1} {20 30 b 1}]")
	if n, no := f.Put(event(0, "a", 40, 0)); n != 0 || no != ErrEnded {
		t.Errorf("P4: Put = %d, %d, want 0, ErrEnded", n, no)
	}
	// An idle part can end.
	mustEnd(t, f, 1, 2)
	wantMark(t, f, math.MaxInt)
	mustTick(t, f, 1000)
	wantMark(t, f, math.MaxInt)
	wantPanes(t, f, "[{10 20 a 1} {20 30 b 1} {30 40 c 2}]")
}

func TestTicksOfOneFlowAreNotAnothers(t *testing.T) {
	c := Config{Size: 10, Slide: 10, Idle: 1, Parts: 2}
	f, g := mustNew(t, c), mustNew(t, c)
	mustTick(t, f, 5)
	mustPut(t, f, event(0, "a", 30, 0))
	mustPut(t, g, event(0, "a", 30, 0))
	wantMark(t, f, 30)
	wantMark(t, g, math.MinInt)
}

// A part falls silent far behind the others: its windows and theirs lie near
// one another and as far apart as there are times.
func TestTickPassesWindowsNearAndFar(t *testing.T) {
	const first, last = math.MinInt, math.MaxInt
	f := mustNew(t, Config{Size: 4, Slide: 4, Idle: 1, Parts: 2})
	mustPut(t, f, event(0, "a", first, 0))
	for _, at := range []int{last - 4, 1 << 40, 1<<40 + 4, 0, -1, -5, 17, 16, 1 << 20, first + 3, first + 4, first, last} {
		mustPut(t, f, event(1, "b", at, 0))
	}
	wantMark(t, f, first)
	mustTick(t, f, 1)
	wantMark(t, f, first) // both are idle
	mustPut(t, f, event(0, "a", 16, 0))
	mustTick(t, f, 0)
	wantMark(t, f, 16)
	near := fmt.Sprint(Pane{first, first + 4, "a", 1}, Pane{first, first + 4, "b", 2}, Pane{first + 4, first + 8, "b", 1},
		" {-8 -4 b 1} {-4 0 b 1} {0 4 b 1}")
	wantPanes(t, f, "["+near+"]")
	mustPut(t, f, event(1, "b", 16, 0))
	mustTick(t, f, 1)
	mustPut(t, f, event(1, "b", last-1, 0))
	// The last whole window ends at last-3; behind it there is none.
	wantMark(t, f, last)
	wantPanes(t, f, "["+near+" "+fmt.Sprint("{16 20 a 1} {16 20 b 3} {1048576 1048580 b 1} {1099511627776 1099511627780 b 1} {1099511627780 1099511627784 b 1} ",
		Pane{last - 7, last - 3, "b", 1})+"]")
	wantLate(t, f, fmt.Sprint([]Event{event(1, "b", last, 0), event(1, "b", last-1, 0)}))
}
