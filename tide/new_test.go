package tide

import (
	"math"
	"testing"
)

func TestNewStartsAtTheLeastTime(t *testing.T) {
	for _, c := range []Config{
		{Size: 1, Slide: 1, Parts: 1},
		{Size: 1000, Slide: 100, Bound: 1000, Idle: 100, Parts: 8, Fold: 3},
		{Size: 1000, Slide: 1000, Bound: 0, Idle: 0, Parts: 8, Fold: 0},
	} {
		f := mustNew(t, c)
		wantMark(t, f, math.MinInt)
		wantPanes(t, f, "[]")
		wantLate(t, f, "[]")
		for part := range c.Parts {
			mustPut(t, f, event(part, "", 0, 0))
			mustEnd(t, f, part)
		}
	}
}

func TestNewRefuses(t *testing.T) {
	for _, c := range wrongConfigs() {
		if f, no := New(c); f != nil || no != ErrArg {
			t.Errorf("P3: New(%+v) = %v, %d, want nil, ErrArg", c, f, no)
		}
	}
}

func TestNewTakesTheLimits(t *testing.T) {
	for _, c := range []Config{
		{Size: 5, Slide: 5, Parts: 1}, {Size: 50, Slide: 5, Parts: 1}, {Size: 1000, Slide: 1000, Parts: 1},
		{Size: 10, Slide: 1, Parts: 1}, {Size: 10, Slide: 10, Parts: 1},
		{Size: 10, Slide: 5, Bound: 1000, Parts: 1}, {Size: 10, Slide: 5, Idle: 100, Parts: 1},
		{Size: 10, Slide: 5, Parts: 8}, {Size: 10, Slide: 5, Parts: 1, Fold: 3},
	} {
		mustNew(t, c)
	}
}
