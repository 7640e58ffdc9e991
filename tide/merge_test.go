package tide

import (
	"fmt"
	"math"
	"math/rand/v2"
	"runtime"
	"slices"
	"strconv"
	"testing"
	"unsafe"
)

func TestMergeCountsAllStreams(t *testing.T) {
	c := Config{Size: 10, Slide: 5, Bound: 3, Parts: 3, Fold: 1}
	first := []Event{event(0, "b", 7, 1), event(0, "a", 4, 2), event(0, "a", 12, 4)}
	second := []Event{event(0, "a", 3, 100), event(0, "B", 8, 200)}
	third := []Event{event(0, "", -1, 1000), event(0, "\xff", 14, 2000), event(0, "ab", 11, 4000)}
	wantMerge(t, c, "[{-10 0  1000}"+
		" {-5 5  1000} {-5 5 a 102}"+
		" {0 10 B 200} {0 10 a 102} {0 10 b 1}"+
		" {5 15 B 200} {5 15 a 4} {5 15 ab 4000} {5 15 b 1} {5 15 \xff 2000}"+
		" {10 20 a 4} {10 20 ab 4000} {10 20 \xff 2000}]", "[]", first, second, third)
}

func TestMergeDropsWhatIsBelowTheBound(t *testing.T) {
	c := Config{Size: 1, Slide: 1, Bound: 5, Parts: 1}
	one := func(at ...int) []Event {
		var list []Event
		for i, a := range at {
			list = append(list, event(0, "k", a, i))
		}
		return list
	}
	// Just at the greatest time less Bound, and just below it.
	wantMerge(t, c, "[{15 16 k 1} {20 21 k 1}]", "[{0 k 14 2}]", one(20, 15, 14))
	// What was counted below the greatest time does not lower it.
	wantMerge(t, c, "[{16 17 k 1} {20 21 k 1}]", "[{0 k 11 2} {0 k 14 3}]", one(20, 16, 11, 14))
	// The greatest time is the greatest ahead of the event: not a later one, nor its own.
	wantMerge(t, c, "[{0 1 k 1} {9 10 k 1} {100 101 k 1}]", "[{0 k 94 3}]", one(0, 9, 100, 94))

	c.Bound = 0
	wantMerge(t, c, "[{20 21 k 2} {21 22 k 1}]", "[{0 k 19 2} {0 k 20 4}]", one(20, 20, 19, 21, 20))
	c.Bound = 1000
	wantMerge(t, c, "[{0 1 k 1} {1000 1001 k 1}]", "[{0 k -1 2}]", one(1000, 0, -1))
	// A window that has been left behind is not over for an event within the bound.
	c = Config{Size: 10, Slide: 10, Bound: 30, Parts: 1}
	wantMerge(t, c, "[{0 10 k 2} {30 40 k 1}]", "[]", one(0, 35, 5))
}

func TestMergeTellsWhatItDroppedStreamByStream(t *testing.T) {
	c := Config{Size: 10, Slide: 10, Parts: 3}
	first := []Event{event(0, "a", 50, 0), event(0, "x", 30, 1), event(0, "w", 40, 2)}
	second := []Event{event(0, "a", 10, 0), event(0, "a", 20, 0)} // far below the first stream: that is no matter
	third := []Event{event(0, "a", 90, 0), event(0, "c", 1, 3), event(0, "b", 2, 4), event(0, "c", 1, 3)}
	for range 50 {
		wantMerge(t, c, "[{10 20 a 1} {20 30 a 1} {50 60 a 1} {90 100 a 1}]",
			"[{0 x 30 1} {0 w 40 2} {0 c 1 3} {0 b 2 4} {0 c 1 3}]", first, second, third)
	}
}

func TestMergeDoesNotLookAtPartAndIdle(t *testing.T) {
	for _, idle := range []int{0, 1, 100} {
		c := Config{Size: 10, Slide: 10, Idle: idle, Parts: 2}
		first := []Event{event(1, "a", 50, 0), event(-1, "a", 51, 0), event(math.MaxInt, "d", 7, 0)}
		second := []Event{event(0, "a", 52, 0), event(math.MinInt, "a", 53, 0), event(1, "e", 8, 0)}
		wantMerge(t, c, "[{50 60 a 4}]", "[{9223372036854775807 d 7 0} {1 e 8 0}]", first, second)
	}
}

func TestMergeOfStreamsWithoutEvents(t *testing.T) {
	c := Config{Size: 10, Slide: 10, Parts: 1}
	wantMerge(t, c, "[]", "[]", nil)
	wantMerge(t, c, "[]", "[]", []Event{})
	wantMerge(t, c, "[{0 10 a 1}]", "[]", []Event{event(0, "a", 3, 0)})
	c.Parts = 3
	wantMerge(t, c, "[]", "[]", nil, []Event{}, nil)
	wantMerge(t, c, "[{0 10 a 1}]", "[]", nil, []Event{event(0, "a", 3, 0)}, []Event{})
}

func TestMergeOfAsManyStreamsAsMayBe(t *testing.T) {
	var streams [][]Event
	for i := range 8 {
		streams = append(streams, []Event{event(0, "all", 5, 1<<i), event(0, strconv.Itoa(7-i), 15, i), event(0, "x", 14, i)})
	}
	wantMerge(t, Config{Size: 10, Slide: 10, Parts: 8, Fold: 1},
		"[{0 10 all 255} {10 20 0 7} {10 20 1 6} {10 20 2 5} {10 20 3 4} {10 20 4 3} {10 20 5 2} {10 20 6 1} {10 20 7 0}]",
		"[{0 x 14 0} {0 x 14 1} {0 x 14 2} {0 x 14 3} {0 x 14 4} {0 x 14 5} {0 x 14 6} {0 x 14 7}]", streams...)
}

func TestMergeFolds(t *testing.T) {
	for _, c := range []struct {
		fold          int
		first, second []int
		want          string
	}{
		{0, []int{7, -7}, []int{0}, "[{0 10 k 3}]"},
		{1, []int{7, 0}, []int{-9}, "[{0 10 k -2}]"},
		{1, []int{math.MaxInt}, []int{1}, "[{0 10 k -9223372036854775808}]"},
		{1, []int{math.MinInt}, []int{-1}, "[{0 10 k 9223372036854775807}]"},
		{2, []int{7, 3}, []int{4, 5}, "[{0 10 k 3}]"},
		{2, []int{7}, []int{-4, math.MaxInt}, "[{0 10 k -4}]"},
		{2, []int{math.MaxInt}, nil, "[{0 10 k 9223372036854775807}]"},
		{3, []int{-7}, []int{-9, -8}, "[{0 10 k -7}]"},
		{3, []int{-7}, []int{-6, math.MinInt}, "[{0 10 k -6}]"},
		{3, nil, []int{math.MinInt}, "[{0 10 k -9223372036854775808}]"},
	} {
		var streams [2][]Event
		for i, values := range [][]int{c.first, c.second} {
			for _, value := range values {
				streams[i] = append(streams[i], event(0, "k", 4, value))
			}
		}
		wantMerge(t, Config{Size: 10, Slide: 10, Parts: 2, Fold: c.fold}, c.want, "[]", streams[:]...)
	}
}

func TestMergeAtTheEndsOfTime(t *testing.T) {
	const least, greatest = math.MinInt, math.MaxInt
	c := Config{Size: 1, Slide: 1, Bound: 1000, Parts: 2}
	// The greatest time less Bound would be below the least time: nothing is.
	wantMerge(t, c, "[{-9223372036854775808 -9223372036854775807 a 1} {-9223372036854775808 -9223372036854775807 b 2} {-9223372036854774809 -9223372036854774808 a 1}]", "[]",
		[]Event{event(0, "a", least+999, 0), event(0, "a", least, 0)},
		[]Event{event(0, "b", least, 0), event(0, "b", least, 0)})
	wantMerge(t, c, "[{-9223372036854775808 -9223372036854775807 a 1} {-9223372036854774808 -9223372036854774807 a 1} {-9223372036854774807 -9223372036854774806 b 1}]", "[{0 b -9223372036854775808 0}]",
		[]Event{event(0, "a", least+1000, 0), event(0, "a", least, 0)},
		[]Event{event(0, "b", least+1001, 0), event(0, "b", least, 0)})
	wantMerge(t, c, "[{9223372036854774807 9223372036854774808 a 1} {9223372036854775806 9223372036854775807 a 1}]", "[{0 a 9223372036854774806 0} {0 a -9223372036854775808 0}]",
		[]Event{event(0, "a", greatest, 0), event(0, "a", greatest-1, 0), event(0, "a", greatest-1000, 0), event(0, "a", greatest-1001, 0), event(0, "a", least, 0)}, nil)
}

func TestMergeOfEventsWithoutWindows(t *testing.T) {
	const least, greatest = math.MinInt, math.MaxInt
	c := Config{Size: 3, Slide: 3, Bound: 1, Parts: 2}
	// They give no pane, and are not dropped.
	wantMerge(t, c, "[]", "[]", []Event{event(0, "a", least, 0), event(0, "a", least+1, 0), event(0, "a", least, 0)}, []Event{event(0, "a", greatest, 0)})
	// They are, if they are below the bound; and their times are times ahead of others.
	wantMerge(t, c, "[{-9223372036854775806 -9223372036854775803 a 1}]", "[{0 b -9223372036854775808 0} {0 a 5 0}]",
		[]Event{event(0, "a", least+2, 0), event(0, "b", least, 0)},
		[]Event{event(0, "a", greatest, 0), event(0, "a", 5, 0)})
	// Of some windows only a part is there.
	c = Config{Size: 2, Slide: 1, Parts: 2}
	wantMerge(t, c, "[{-9223372036854775808 -9223372036854775806 a 1} {9223372036854775805 9223372036854775807 z 1}]", "[]",
		[]Event{event(0, "a", least, 0)}, []Event{event(0, "z", greatest-1, 0), event(0, "z", greatest, 0)})
}

func wantMergeRefused(t *testing.T, c Config, streams [][]Event) {
	t.Helper()
	if panes, dropped, no := Merge(c, streams...); panes != nil || dropped != nil || no != ErrArg {
		t.Errorf("P1, P9: Merge(%+v, %d streams) = %v, %v, %d, want nil, nil, ErrArg", c, len(streams), panes, dropped, no)
	}
}

func TestMergeRefuses(t *testing.T) {
	stream := []Event{event(0, "a", 9, 1), event(0, "a", -9, 1)}
	for _, c := range wrongConfigs() {
		for n := range 10 {
			wantMergeRefused(t, c, slices.Repeat([][]Event{stream}, n))
		}
	}
	for parts := 1; parts <= 8; parts++ {
		c := Config{Size: 10, Slide: 5, Parts: parts}
		for _, n := range []int{0, parts - 1, parts + 1, 9, 100} {
			wantMergeRefused(t, c, slices.Repeat([][]Event{stream}, n))
			wantMergeRefused(t, c, make([][]Event, n))
		}
		mustMerge(t, c, slices.Repeat([][]Event{stream}, parts)...)
	}
}

func TestMergeKeepsNothingAndSharesNothing(t *testing.T) {
	key, gone := strconv.Itoa(123456), strconv.Itoa(654321)
	c := Config{Size: 10, Slide: 5, Parts: 2, Fold: 1}
	streams := [][]Event{
		{event(0, key, 7, 1), event(0, gone, 2, 1), event(0, key, 8, 1), event(0, key, 3, 1)},
		{event(0, key, 7, 1), event(0, gone, 2, 1), event(0, key, 8, 1), event(0, key, 3, 1)},
	}
	before := [][]Event{slices.Clone(streams[0]), slices.Clone(streams[1])}
	panes, dropped := mustMerge(t, c, streams...)
	for i := range streams {
		if !slices.Equal(streams[i], before[i]) {
			t.Errorf("P1: Merge changes a stream to %v", streams[i])
		}
	}
	keys := map[*byte]string{unsafe.StringData(key): "a stream", unsafe.StringData(gone): "a stream"}
	for _, p := range panes {
		if whose := keys[unsafe.StringData(p.Key)]; whose != "" {
			t.Errorf("P1: the key of a pane is the memory of %s", whose)
		}
	}
	for _, p := range panes {
		keys[unsafe.StringData(p.Key)] = "a pane"
	}
	for _, e := range dropped {
		if whose := keys[unsafe.StringData(e.Key)]; whose != "" {
			t.Errorf("P1: the key of a dropped event is the memory of %s", whose)
		}
	}
	want := fmt.Sprint(panes, dropped)
	again, droppedAgain := mustMerge(t, c, streams...)
	clear(streams[0])
	clear(panes)
	clear(dropped)
	if got := fmt.Sprint(again, droppedAgain); got != want {
		t.Errorf("P1: what was answered changes to %s, was %s", got, want)
	}
}

// mergePlainly does what the document says of Merge: it looks at all that stands ahead of each event.
func mergePlainly(c Config, streams [][]Event) ([]Pane, []Event) {
	m := newModel(c)
	var dropped []Event
	for _, stream := range streams {
		for i, e := range stream {
			below := func(ahead Event) bool {
				return e.At < ahead.At && uint64(ahead.At)-uint64(e.At) > uint64(c.Bound)
			}
			if slices.ContainsFunc(stream[:i], below) {
				dropped = append(dropped, e)
				continue
			}
			for _, begin := range windowsByTrying(e.At, c.Size, c.Slide) {
				m.counts = append(m.counts, count{begin, e.Key, e.Value})
			}
		}
	}
	m.mark = math.MaxInt
	return m.panes(), dropped
}

func TestMergeAgainstModel(t *testing.T) {
	r := rand.New(rand.NewPCG(9, 10))
	bases := []int{0, -300, 1 << 40, math.MinInt + 60, math.MaxInt - 400, -1 << 62}
	widths := []int{120, 120, 60, 1 << 12, 1 << 62}
	for run := range 200 {
		c, base, width := randomConfig(r), bases[run%len(bases)], widths[run%len(widths)]
		c.Parts = 1 + r.IntN(8)
		streams := make([][]Event, c.Parts)
		for i := range streams {
			for step := range r.IntN(20) {
				streams[i] = append(streams[i], randomEvents(r, c, base+step*(width/12), width)...)
			}
		}
		panes, dropped := mergePlainly(c, streams)
		wantMerge(t, c, fmt.Sprint(panes), fmt.Sprint(dropped), streams...)
		if t.Failed() {
			t.Fatalf("in run %d", run)
		}
	}
}

func TestMergeHangsOnNoSchedule(t *testing.T) {
	defer runtime.GOMAXPROCS(runtime.GOMAXPROCS(0))
	r := rand.New(rand.NewPCG(11, 12))
	for fold := range 4 {
		c := Config{Size: 20, Slide: 4, Bound: 15, Parts: 8, Fold: fold}
		streams := make([][]Event, c.Parts)
		for i := range streams {
			for step := range 200 {
				streams[i] = append(streams[i], randomEvents(r, c, step*3, 24)...)
			}
		}
		panes, dropped := mergePlainly(c, streams)
		for _, threads := range []int{1, 2, 3, 8, 32} {
			runtime.GOMAXPROCS(threads)
			for range 4 {
				got, gotDropped := mustMerge(t, c, streams...)
				if !slices.Equal(got, panes) || !slices.Equal(gotDropped, dropped) {
					t.Fatalf("P9: fold %d on %d threads: another answer", fold, threads)
				}
			}
		}
	}
}

func TestMergeOfLongStreamsEnds(t *testing.T) {
	const many = 50000
	c := Config{Size: 1000, Slide: 100, Bound: 999, Parts: 8}
	streams := make([][]Event, c.Parts)
	for i := range streams {
		streams[i] = make([]Event, many)
		for n := range streams[i] {
			streams[i][n] = event(0, strconv.Itoa(n%3), n*7-n*13%1000, 1)
		}
	}
	panes, dropped := mustMerge(t, c, streams...)
	sum := 0
	for _, p := range panes {
		sum += p.N
	}
	if len(dropped) != 0 || sum != 10*8*many {
		t.Errorf("P9: %d dropped, %d counted, want 0, %d", len(dropped), sum, 10*8*many)
	}
}
