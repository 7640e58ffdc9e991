package tide

import (
	"math"
	"testing"
)

func TestEndStopsAtTheFirstRefusal(t *testing.T) {
	f := mustNew(t, Config{Size: 10, Slide: 10, Parts: 4})
	for _, c := range []struct {
		parts []int
		n     int
		no    Errno
	}{
		{nil, 0, OK},
		{[]int{4}, 0, ErrPart},
		{[]int{-1, 0}, 0, ErrPart},
		{[]int{math.MinInt}, 0, ErrPart},
		{[]int{math.MaxInt}, 0, ErrPart},
		{[]int{2}, 1, OK},
		{[]int{2, 0}, 0, ErrEnded},
		{[]int{0, 2, 1}, 1, ErrEnded},
		{[]int{1, 4, 3}, 1, ErrPart},
	} {
		if n, no := f.End(c.parts...); n != c.n || no != c.no {
			t.Errorf("P7: End(%v) = %d, %d, want %d, %d", c.parts, n, no, c.n, c.no)
		}
	}
	// Part 3 alone has not ended: what stood behind a refusal was not done.
	wantMark(t, f, math.MinInt)
	if n, no := f.End(3, 3); n != 1 || no != ErrEnded {
		t.Errorf("P7: End(3, 3) = %d, %d, want 1, ErrEnded", n, no)
	}
	wantMark(t, f, math.MaxInt)
}

func TestEndMovesTheMark(t *testing.T) {
	f := mustNew(t, Config{Size: 10, Slide: 10, Bound: 2, Parts: 3})
	mustPut(t, f, event(0, "a", 15, 0), event(1, "b", 27, 0))
	wantMark(t, f, math.MinInt)
	mustEnd(t, f, 2)
	wantMark(t, f, 13)
	wantPanes(t, f, "[]")
	mustEnd(t, f, 0)
	wantMark(t, f, 25)
	wantPanes(t, f, "[{10 20 a 1}]")
	mustEnd(t, f, 1)
	wantMark(t, f, math.MaxInt)
	wantPanes(t, f, "[{10 20 a 1} {20 30 b 1}]")
}

func TestNothingIsTakenWhenAllHaveEnded(t *testing.T) {
	f := mustNew(t, plain)
	mustEnd(t, f, 0)
	if n, no := f.Put(event(0, "a", 1, 1)); n != 0 || no != ErrEnded {
		t.Errorf("P4: Put = %d, %d, want 0, ErrEnded", n, no)
	}
	if n, no := f.Put(event(1, "a", 1, 1)); n != 0 || no != ErrPart {
		t.Errorf("P4: Put = %d, %d, want 0, ErrPart", n, no)
	}
	wantPanes(t, f, "[]")
	wantLate(t, f, "[]")
}
