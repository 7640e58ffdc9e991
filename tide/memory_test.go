package tide

import (
	"slices"
	"strconv"
	"testing"
	"unsafe"
)

func TestAnswersAreNewMemory(t *testing.T) {
	f := mustNew(t, plain)
	mustPut(t, f, event(0, "a", 1, 0), event(0, "a", 20, 0), event(0, "late", 2, 0))
	f.Panes()[0].Key = "changed"
	f.Late()[0].Key = "changed"
	_ = append(f.Panes()[:0], Pane{})
	wantPanes(t, f, "[{0 10 a 1}]")
	wantLate(t, f, "[{0 late 2 0}]")

	panes, late := f.Panes(), f.Late()
	mustPut(t, f, event(0, "b", 40, 0), event(0, "late too", 3, 0))
	if len(panes) != 1 || len(late) != 1 {
		t.Errorf("P1: a later Put changes what was answered: %v, %v", panes, late)
	}
}

func TestListsHandedInAreNotChangedAndNotKept(t *testing.T) {
	f := mustNew(t, plain)
	events := []Event{event(0, "a", 31, 1), event(0, "b", 2, 2), event(0, "c", 33, 3)}
	before := slices.Clone(events)
	mustPut(t, f, events...)
	if !slices.Equal(events, before) {
		t.Errorf("P1: Put changes its list to %v", events)
	}
	for i := range events {
		events[i] = Event{Key: "changed"}
	}
	parts := []int{0}
	mustEnd(t, f, parts...)
	if parts[0] != 0 {
		t.Errorf("P1: End changes its list to %v", parts)
	}
	wantPanes(t, f, "[{30 40 a 1} {30 40 c 1}]")
	wantLate(t, f, "[{0 b 2 2}]")
}

func TestKeysAreNotKept(t *testing.T) {
	f := mustNew(t, plain)
	early, late := strconv.Itoa(123456), strconv.Itoa(654321)
	mustPut(t, f, event(0, early, 1, 0), event(0, early, 2, 0), event(0, "b", 50, 0), event(0, late, 3, 0))
	if unsafe.StringData(f.Panes()[0].Key) == unsafe.StringData(early) {
		t.Error("P1: a pane's key is the caller's memory")
	}
	if unsafe.StringData(f.Late()[0].Key) == unsafe.StringData(late) {
		t.Error("P1: a late event's key is the caller's memory")
	}
}

func TestFlowsShareNothing(t *testing.T) {
	f, g := mustNew(t, plain), mustNew(t, plain)
	mustPut(t, f, event(0, "f", 5, 0), event(0, "f", 15, 0))
	mustPut(t, g, event(0, "g", 5, 0))
	mustEnd(t, f, 0)
	wantMark(t, g, 5)
	wantPanes(t, g, "[]")
	mustEnd(t, g, 0)
	wantPanes(t, f, "[{0 10 f 1} {10 20 f 1}]")
	wantPanes(t, g, "[{0 10 g 1}]")
}

func TestWhatNewRefusedDoesNotPanic(t *testing.T) {
	f, _ := New(Config{})
	if n, no := f.Put(event(0, "a", 1, 1)); n != 0 || no != ErrPart {
		t.Errorf("P1: Put = %d, %d, want 0, ErrPart", n, no)
	}
	if n, no := f.End(0); n != 0 || no != ErrPart {
		t.Errorf("P1: End = %d, %d, want 0, ErrPart", n, no)
	}
	if no := f.Tick(1001); no != ErrArg {
		t.Errorf("P1: Tick(1001) = %d, want ErrArg", no)
	}
	mustTick(t, f, 1)
	if f.Mark() != 0 || f.Panes() != nil || f.Late() != nil {
		t.Errorf("P1: %d, %v, %v, want 0, nil, nil", f.Mark(), f.Panes(), f.Late())
	}
}

func TestLongListsEnd(t *testing.T) {
	const many = 200000
	f := mustNew(t, Config{Size: 1000, Slide: 100, Bound: 1000, Parts: 1})
	events := make([]Event, many)
	for i := range events {
		events[i] = event(0, strconv.Itoa(i%3), i*7-i%1000, 1)
	}
	mustPut(t, f, events...)
	mustEnd(t, f, 0)
	sum := 0
	for _, p := range f.Panes() {
		sum += p.N
	}
	if late := len(f.Late()); late != 0 || sum != 10*many {
		t.Errorf("P4: %d late, %d counted, want 0, %d", late, sum, 10*many)
	}
}
