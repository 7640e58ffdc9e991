package tide

import (
	"maps"
	"slices"
	"strings"
	"sync"
)

// pool is what the readers of all streams count, by the ends of the windows.
// No fold minds the order of its values, so it does not matter who comes first.
type pool struct {
	sync.Mutex
	tallies map[int]tally
}

// merge reads each stream by a goroutine of its own. What they drop is kept
// apart, one list a reader, so that its order is that of the streams.
func merge(c Config, streams [][]Event) ([]Pane, []Event) {
	counted := pool{tallies: map[int]tally{}}
	dropped := make([][]Event, len(streams))
	var readers sync.WaitGroup
	readers.Add(len(streams))
	for i, stream := range streams {
		go func() {
			defer readers.Done()
			dropped[i] = counted.read(stream, c)
		}()
	}
	readers.Wait()
	return counted.panes(c.Size), slices.Concat(dropped...)
}

// read counts the events of one stream, and tells those that it drops.
func (p *pool) read(stream []Event, c Config) []Event {
	var dropped []Event
	greatest := minTime
	for _, e := range stream {
		// A key may be a piece of a far longer text of the caller's, which no answer may share.
		e.Key = strings.Clone(e.Key)
		if e.At < less(greatest, c.Bound) {
			dropped = append(dropped, e)
			continue
		}
		greatest = max(greatest, e.At)
		p.count(e, c)
	}
	return dropped
}

// count counts an event in all its windows. They are found ahead of the lock, which the other readers wait for.
func (p *pool) count(e Event, c Config) {
	list := begins(e.At, c.Size, c.Slide)
	p.Lock()
	defer p.Unlock()
	for _, begin := range list {
		p.tallyOf(begin+c.Size).add(e.Key, e.Value, c.Fold)
	}
}

// tallyOf finds or makes the tally of the window with that end; the lock must be held.
func (p *pool) tallyOf(end int) tally {
	t := p.tallies[end]
	if t == nil {
		t = tally{}
		p.tallies[end] = t
	}
	return t
}

// panes tells what was counted, once all readers are done. Windows of one size
// begin in the order in which they end.
func (p *pool) panes(size int) []Pane {
	var list []Pane
	for _, end := range slices.Sorted(maps.Keys(p.tallies)) {
		list = append(list, p.tallies[end].panes(end-size, end)...)
	}
	return list
}
