package tide

import (
	"fmt"
	"testing"
)

// A plain config: windows side by side, every event moves the mark.
var plain = Config{Size: 10, Slide: 10, Parts: 1}

func mustNew(t *testing.T, c Config) *Flow {
	t.Helper()
	f, no := New(c)
	if f == nil || no != OK {
		t.Fatalf("P3: New(%+v) = %v, %d", c, f, no)
	}
	return f
}

func event(part int, key string, at, value int) Event {
	return Event{Part: part, Key: key, At: at, Value: value}
}

func mustPut(t *testing.T, f *Flow, events ...Event) {
	t.Helper()
	if n, no := f.Put(events...); n != len(events) || no != OK {
		t.Fatalf("P4: Put(%v) = %d, %d", events, n, no)
	}
}

func mustEnd(t *testing.T, f *Flow, parts ...int) {
	t.Helper()
	if n, no := f.End(parts...); n != len(parts) || no != OK {
		t.Fatalf("P7: End(%v) = %d, %d", parts, n, no)
	}
}

func mustTick(t *testing.T, f *Flow, n int) {
	t.Helper()
	if no := f.Tick(n); no != OK {
		t.Fatalf("P6: Tick(%d) = %d", n, no)
	}
}

func wantMark(t *testing.T, f *Flow, want int) {
	t.Helper()
	if got := f.Mark(); got != want {
		t.Errorf("P5: the mark is %d, want %d", got, want)
	}
}

func wantPanes(t *testing.T, f *Flow, want string) {
	t.Helper()
	if got := fmt.Sprint(f.Panes()); got != want {
		t.Errorf("P5, P8: the panes are %s, want %s", got, want)
	}
}

func wantLate(t *testing.T, f *Flow, want string) {
	t.Helper()
	if got := fmt.Sprint(f.Late()); got != want {
		t.Errorf("P4, P8: the late events are %s, want %s", got, want)
	}
}
