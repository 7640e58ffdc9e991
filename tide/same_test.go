package tide

import (
	"fmt"
	"math"
	"math/rand/v2"
	"slices"
	"testing"
)

// turns tells part by part whose event comes next: each part as often as it has events.
func turns(streams [][]Event) []int {
	var list []int
	for part, stream := range streams {
		list = append(list, slices.Repeat([]int{part}, len(stream))...)
	}
	return list
}

// roundRobin takes an event of each part in turn, as long as it has one.
func roundRobin(streams [][]Event) []int {
	var list []int
	for n := 0; len(list) < len(turns(streams)); n++ {
		for part, stream := range streams {
			if n < len(stream) {
				list = append(list, part)
			}
		}
	}
	return list
}

// backward takes the last part first.
func backward(streams [][]Event) []int {
	list := turns(streams)
	slices.Reverse(list)
	return list
}

func shuffled(r *rand.Rand, streams [][]Event) []int {
	list := turns(streams)
	r.Shuffle(len(list), func(i, j int) { list[i], list[j] = list[j], list[i] })
	return list
}

// interleave makes one list of all events, each with the number of its stream as its part.
func interleave(streams [][]Event, order []int) []Event {
	next := make([]int, len(streams))
	var list []Event
	for _, part := range order {
		e := streams[part][next[part]]
		e.Part = part
		next[part]++
		list = append(list, e)
	}
	return list
}

func withoutWindows(c Config, events []Event) []Event {
	var list []Event
	for _, e := range events {
		if windowsByTrying(e.At, c.Size, c.Slide) == nil {
			list = append(list, e)
		}
	}
	return list
}

// wantSame holds a flow that takes the events in that order against Merge.
// Parts end at the end of all, or else as soon as they have no more events.
func wantSame(t *testing.T, c Config, streams [][]Event, order []int, endEarly bool) {
	t.Helper()
	panes, dropped := mustMerge(t, c, streams...)
	if len(dropped) != 0 {
		t.Fatalf("P9: Merge(%+v, %v) drops %v", c, streams, dropped)
	}
	f := mustNew(t, c)
	events := interleave(streams, order)
	for i, e := range events {
		mustPut(t, f, e)
		mustTick(t, f, 0)
		if endEarly && !slices.Contains(order[i+1:], e.Part) {
			mustEnd(t, f, e.Part)
		}
	}
	for part, stream := range streams {
		if !endEarly || len(stream) == 0 {
			mustEnd(t, f, part)
		}
	}
	if got, want := fmt.Sprint(f.Late()), fmt.Sprint(withoutWindows(c, events)); got != want {
		t.Fatalf("P10: %+v, %v: late are %s, want %s", c, events, got, want)
	}
	if got, want := fmt.Sprint(f.Panes()), fmt.Sprint(panes); got != want {
		t.Fatalf("P10: %+v, %v:\n the flow tells %s\nMerge tells %s", c, events, got, want)
	}
}

func wantSameInAllOrders(t *testing.T, r *rand.Rand, c Config, streams [][]Event) {
	t.Helper()
	orders := [][]int{turns(streams), backward(streams), roundRobin(streams)}
	for range 4 {
		orders = append(orders, shuffled(r, streams))
	}
	for _, order := range orders {
		wantSame(t, c, streams, order, false)
		wantSame(t, c, streams, order, true)
	}
}

func TestFlowTellsThePanesOfMerge(t *testing.T) {
	const least, greatest = math.MinInt, math.MaxInt
	at := func(times ...int) []Event {
		var list []Event
		for i, a := range times {
			list = append(list, event(0, []string{"a", "b"}[i%2], a, i+1))
		}
		return list
	}
	r := rand.New(rand.NewPCG(13, 14))
	for _, s := range []struct {
		size, slide, bound int
		streams            [][]Event
	}{
		{10, 10, 5, [][]Event{at(3, 8, 12, 7, 25, 20), at(1, 2, 90, 85, 88)}},
		{10, 5, 0, [][]Event{at(0, 0, 5, 10, 10, 14), at(4, 9, 9, 200)}},
		{10, 1, 9, [][]Event{at(9, 0, 18, 9, 27, 18)}},
		{10, 5, 3, [][]Event{nil, at(4, 1, 9), nil}},
		{10, 5, 3, [][]Event{nil, nil}},
		{1, 1, 1000, [][]Event{at(1000, 0, 1000, 0), at(-500, -1500)}},
		{1000, 100, 1000, [][]Event{at(0), at(1), at(2), at(3), at(-4), at(-5), at(-6), at(5000, 4000)}},
		{1000, 1000, 0, [][]Event{at(least, least+1, -1, 0, greatest-1, greatest), at(greatest, greatest)}},
		{3, 3, 1000, [][]Event{at(least+999, least, least+1000, least), at(greatest, greatest-1000, greatest-1)}},
		{1, 1, 0, [][]Event{at(least, greatest-1), at(least, least, greatest)}},
	} {
		for fold := range 4 {
			for _, idle := range []int{0, 1} {
				c := Config{Size: s.size, Slide: s.slide, Bound: s.bound, Idle: idle, Parts: len(s.streams), Fold: fold}
				wantSameInAllOrders(t, r, c, s.streams)
			}
		}
	}
}

// withinBound makes a stream without an event below the greatest time so far less Bound.
func withinBound(r *rand.Rand, c Config, base, step int) []Event {
	var list []Event
	greatest := base
	for range r.IntN(40) {
		ahead := min(r.IntN(step), math.MaxInt-max(0, greatest))
		greatest += ahead
		back := r.IntN(c.Bound + 1)
		if r.IntN(4) == 0 {
			back = c.Bound
		}
		e := event(0, []string{"", "a", "ab", "\xff"}[r.IntN(4)], 0, int(r.Uint64()))
		e.At = max(greatest, math.MinInt+back) - back
		if r.IntN(3) == 0 {
			e.At = greatest
		}
		list = append(list, e)
	}
	return list
}

func TestFlowTellsThePanesOfMergeAtRandom(t *testing.T) {
	r := rand.New(rand.NewPCG(15, 16))
	bases := []int{0, -300, 1 << 40, math.MinInt, math.MinInt + 20, math.MaxInt - 300, math.MaxInt - 20, -1 << 62}
	steps := []int{1, 8, 40, 3000, 1 << 57}
	for run := range 120 {
		c := randomConfig(r)
		c.Parts = 1 + r.IntN(8)
		streams := make([][]Event, c.Parts)
		for i := range streams {
			streams[i] = withinBound(r, c, bases[run%len(bases)], steps[r.IntN(len(steps))])
		}
		wantSameInAllOrders(t, r, c, streams)
	}
}
