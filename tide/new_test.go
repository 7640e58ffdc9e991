package tide

import (
	"math"
	"testing"
)

func TestNewStartsAtTheLeastTime(t *testing.T) {
	for _, c := range []Config{
		{Size: 1, Slide: 1, Parts: 1},
		{Size: 1000, Slide: 100, Bound: 1000, Idle: 100, Parts: 8, Fold: 3},
		{Size: 1000, Slide: 1000, Bound: 0, Idle: 0, Parts: 8, Fold: 0},
	} {
		f := mustNew(t, c)
		wantMark(t, f, math.MinInt)
		wantPanes(t, f, "[]")
		wantLate(t, f, "[]")
		for part := range c.Parts {
			mustPut(t, f, event(part, "", 0, 0))
			mustEnd(t, f, part)
		}
	}
}

func TestNewRefuses(t *testing.T) {
	const least, greatest = math.MinInt, math.MaxInt
	base := Config{Size: 10, Slide: 5, Bound: 5, Idle: 5, Parts: 5, Fold: 1}
	for name, bad := range map[string]struct {
		field   func(c *Config) *int
		numbers []int
	}{
		"Size":  {func(c *Config) *int { return &c.Size }, []int{least, -10, 0, 4, 51, 1001, greatest}},
		"Slide": {func(c *Config) *int { return &c.Slide }, []int{least, -5, 0, 11, greatest}},
		"Bound": {func(c *Config) *int { return &c.Bound }, []int{least, -1, 1001, greatest}},
		"Idle":  {func(c *Config) *int { return &c.Idle }, []int{least, -1, 101, greatest}},
		"Parts": {func(c *Config) *int { return &c.Parts }, []int{least, -1, 0, 9, greatest}},
		"Fold":  {func(c *Config) *int { return &c.Fold }, []int{least, -1, 4, greatest}},
	} {
		for _, number := range bad.numbers {
			c := base
			*bad.field(&c) = number
			if f, no := New(c); f != nil || no != ErrArg {
				t.Errorf("P3: New with %s %d = %v, %d, want nil, ErrArg", name, number, f, no)
			}
		}
	}
	if f, no := New(Config{}); f != nil || no != ErrArg {
		t.Errorf("P3: New(Config{}) = %v, %d, want nil, ErrArg", f, no)
	}
}

func TestNewTakesTheLimits(t *testing.T) {
	for _, c := range []Config{
		{Size: 5, Slide: 5, Parts: 1}, {Size: 50, Slide: 5, Parts: 1}, {Size: 1000, Slide: 1000, Parts: 1},
		{Size: 10, Slide: 1, Parts: 1}, {Size: 10, Slide: 10, Parts: 1},
		{Size: 10, Slide: 5, Bound: 1000, Parts: 1}, {Size: 10, Slide: 5, Idle: 100, Parts: 1},
		{Size: 10, Slide: 5, Parts: 8}, {Size: 10, Slide: 5, Parts: 1, Fold: 3},
	} {
		mustNew(t, c)
	}
}
