package tide

import (
	"math"
	"testing"
)

func TestMarkIsTheLeastThatPartsAllow(t *testing.T) {
	f := mustNew(t, Config{Size: 10, Slide: 10, Bound: 5, Parts: 3})
	mustPut(t, f, event(0, "a", 100, 0), event(1, "a", 50, 0))
	wantMark(t, f, math.MinInt)
	mustPut(t, f, event(2, "a", 70, 0))
	wantMark(t, f, 45)
	mustPut(t, f, event(1, "a", 200, 0))
	wantMark(t, f, 65)
	mustEnd(t, f, 2)
	wantMark(t, f, 95)
	mustEnd(t, f, 1)
	wantMark(t, f, 95)
	mustEnd(t, f, 0)
	wantMark(t, f, math.MaxInt)
}

func TestMarkStaysAtTheLeastTime(t *testing.T) {
	for _, c := range []struct{ bound, at, want int }{
		{0, math.MinInt, math.MinInt},
		{1000, math.MinInt, math.MinInt},
		{1000, math.MinInt + 999, math.MinInt},
		{1000, math.MinInt + 1000, math.MinInt},
		{1000, math.MinInt + 1001, math.MinInt + 1},
		{1, math.MinInt + 1, math.MinInt},
		{0, math.MinInt + 1, math.MinInt + 1},
		{1000, math.MaxInt, math.MaxInt - 1000},
		{0, math.MaxInt, math.MaxInt},
		{7, 0, -7},
	} {
		f := mustNew(t, Config{Size: 10, Slide: 10, Bound: c.bound, Parts: 1})
		mustPut(t, f, event(0, "a", c.at, 0))
		wantMark(t, f, c.want)
	}
}

func TestMarkDoesNotGoBack(t *testing.T) {
	f := mustNew(t, Config{Size: 10, Slide: 10, Parts: 2})
	mustPut(t, f, event(0, "a", 30, 0), event(1, "a", 40, 0))
	wantMark(t, f, 30)
	mustPut(t, f, event(0, "a", 10, 0), event(1, "a", math.MinInt, 0))
	wantMark(t, f, 30)
}

func TestMarkLooksPastIdleParts(t *testing.T) {
	f := mustNew(t, Config{Size: 10, Slide: 10, Idle: 2, Parts: 3})
	mustPut(t, f, event(0, "a", 30, 0), event(1, "a", 40, 0))
	mustTick(t, f, 1)
	mustPut(t, f, event(0, "a", 31, 0), event(1, "a", 41, 0))
	wantMark(t, f, math.MinInt)
	mustTick(t, f, 1)
	wantMark(t, f, 31)
	mustPut(t, f, event(0, "a", 32, 0))
	wantMark(t, f, 32)
	mustTick(t, f, 1)
	wantMark(t, f, 32)
	// All that have not ended are idle: the mark stays.
	mustEnd(t, f, 0)
	wantMark(t, f, 32)
	mustEnd(t, f, 1)
	wantMark(t, f, 32)
	mustEnd(t, f, 2)
	wantMark(t, f, math.MaxInt)
}

func TestPanesAreToldInOrder(t *testing.T) {
	f := mustNew(t, Config{Size: 4, Slide: 2, Bound: 100, Parts: 1})
	mustPut(t, f, event(0, "b", 3, 0), event(0, "\xff", -1, 0), event(0, "", 3, 0), event(0, "ab", -1, 0),
		event(0, "a", 3, 0), event(0, "é", 3, 0), event(0, "B", 3, 0), event(0, "z", 3, 0), event(0, "a\x00", 3, 0))
	mustEnd(t, f, 0)
	wantPanes(t, f, "[{-4 0 ab 1} {-4 0 \xff 1} {-2 2 ab 1} {-2 2 \xff 1}"+
		" {0 4  1} {0 4 B 1} {0 4 a 1} {0 4 a\x00 1} {0 4 b 1} {0 4 z 1} {0 4 é 1}"+
		" {2 6  1} {2 6 B 1} {2 6 a 1} {2 6 a\x00 1} {2 6 b 1} {2 6 z 1} {2 6 é 1}]")
}

func TestPanesAreToldOnce(t *testing.T) {
	f := mustNew(t, Config{Size: 10, Slide: 10, Parts: 1, Fold: 1})
	mustPut(t, f, event(0, "a", 1, 1), event(0, "a", 2, 2), event(0, "a", 12, 4))
	wantPanes(t, f, "[{0 10 a 3}]")
	mustPut(t, f, event(0, "a", 13, 8), event(0, "b", 3, 16), event(0, "a", 3, 32))
	wantPanes(t, f, "[{0 10 a 3}]")
	mustPut(t, f, event(0, "c", 40, 64))
	wantPanes(t, f, "[{0 10 a 3} {10 20 a 12}]")
	mustEnd(t, f, 0)
	wantPanes(t, f, "[{0 10 a 3} {10 20 a 12} {40 50 c 64}]")
	wantLate(t, f, "[{0 b 3 16} {0 a 3 32}]")
}
