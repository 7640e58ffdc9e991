package tide

import (
	"fmt"
	"math"
	"testing"
)

// A plain config: windows side by side, every event moves the mark.
var plain = Config{Size: 10, Slide: 10, Parts: 1}

func mustNew(t *testing.T, c Config) *Flow {
	t.Helper()
	f, no := New(c)
	if f == nil || no != OK {
		t.Fatalf("P3: New(%+v) = %v, %d", c, f, no)
	}
	return f
}

func event(part int, key string, at, value int) Event {
	return Event{Part: part, Key: key, At: at, Value: value}
}

func mustPut(t *testing.T, f *Flow, events ...Event) {
	t.Helper()
	if n, no := f.Put(events...); n != len(events) || no != OK {
		t.Fatalf("P4: Put(%v) = %d, %d", events, n, no)
	}
}

func mustEnd(t *testing.T, f *Flow, parts ...int) {
	t.Helper()
	if n, no := f.End(parts...); n != len(parts) || no != OK {
		t.Fatalf("P7: End(%v) = %d, %d", parts, n, no)
	}
}

func mustTick(t *testing.T, f *Flow, n int) {
	t.Helper()
	if no := f.Tick(n); no != OK {
		t.Fatalf("P6: Tick(%d) = %d", n, no)
	}
}

func wantMark(t *testing.T, f *Flow, want int) {
	t.Helper()
	if got := f.Mark(); got != want {
		t.Errorf("P5: the mark is %d, want %d", got, want)
	}
}

func wantPanes(t *testing.T, f *Flow, want string) {
	t.Helper()
	if got := fmt.Sprint(f.Panes()); got != want {
		t.Errorf("P5, P8: the panes are %s, want %s", got, want)
	}
}

func wantLate(t *testing.T, f *Flow, want string) {
	t.Helper()
	if got := fmt.Sprint(f.Late()); got != want {
		t.Errorf("P4, P8: the late events are %s, want %s", got, want)
	}
}

func mustMerge(t *testing.T, c Config, streams ...[]Event) ([]Pane, []Event) {
	t.Helper()
	panes, dropped, no := Merge(c, streams...)
	if no != OK {
		t.Fatalf("P9: Merge(%+v, %d streams) = %d", c, len(streams), no)
	}
	return panes, dropped
}

func wantMerge(t *testing.T, c Config, wantPanes, wantDropped string, streams ...[]Event) {
	t.Helper()
	panes, dropped := mustMerge(t, c, streams...)
	if got := fmt.Sprint(panes); got != wantPanes {
		t.Errorf("P9: Merge(%+v, %v): the panes are %s, want %s", c, streams, got, wantPanes)
	}
	if got := fmt.Sprint(dropped); got != wantDropped {
		t.Errorf("P9: Merge(%+v, %v): dropped are %s, want %s", c, streams, got, wantDropped)
	}
}

// wrongConfigs are good in all fields but one; the first is empty.
func wrongConfigs() []Config {
	const least, greatest = math.MinInt, math.MaxInt
	list := []Config{{}}
	for _, wrong := range []struct {
		field   func(c *Config) *int
		numbers []int
	}{
		{func(c *Config) *int { return &c.Size }, []int{least, -10, 0, 4, 51, 1001, greatest}},
		{func(c *Config) *int { return &c.Slide }, []int{least, -5, 0, 11, greatest}},
		{func(c *Config) *int { return &c.Bound }, []int{least, -1, 1001, greatest}},
		{func(c *Config) *int { return &c.Idle }, []int{least, -1, 101, greatest}},
		{func(c *Config) *int { return &c.Parts }, []int{least, -1, 0, 9, greatest}},
		{func(c *Config) *int { return &c.Fold }, []int{least, -1, 4, greatest}},
	} {
		for _, number := range wrong.numbers {
			c := Config{Size: 10, Slide: 5, Bound: 5, Idle: 5, Parts: 5, Fold: 1}
			*wrong.field(&c) = number
			list = append(list, c)
		}
	}
	return list
}
