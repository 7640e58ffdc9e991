package tide

import (
	"cmp"
	"fmt"
	"math"
	"math/rand/v2"
	"slices"
	"testing"
)

// model does what the document says of a flow in the plainest way: it keeps
// every value and works each answer out anew.
type model struct {
	config Config
	mark   int
	times  [][]int // of the events of each part
	silent []int   // of each part
	ended  []bool
	counts []count
	late   []Event
}

type count struct {
	begin int
	key   string
	value int
}

func newModel(c Config) *model {
	return &model{config: c, mark: math.MinInt, times: make([][]int, c.Parts), silent: make([]int, c.Parts), ended: make([]bool, c.Parts)}
}

func (m *model) put(events []Event) (int, Errno) {
	for i, e := range events {
		if e.Part < 0 || e.Part >= m.config.Parts {
			return i, ErrPart
		}
		if m.ended[e.Part] {
			return i, ErrEnded
		}
		m.silent[e.Part] = 0
		counted := false
		for _, begin := range windowsByTrying(e.At, m.config.Size, m.config.Slide) {
			if begin+m.config.Size > m.mark {
				counted = true
				m.counts = append(m.counts, count{begin, e.Key, e.Value})
			}
		}
		if !counted {
			m.late = append(m.late, e)
		}
		m.times[e.Part] = append(m.times[e.Part], e.At)
		m.move()
	}
	return len(events), OK
}

func (m *model) end(parts []int) (int, Errno) {
	for i, p := range parts {
		if p < 0 || p >= m.config.Parts {
			return i, ErrPart
		}
		if m.ended[p] {
			return i, ErrEnded
		}
		m.ended[p] = true
		m.move()
	}
	return len(parts), OK
}

func (m *model) tick(n int) Errno {
	if n < 0 || n > 1000 {
		return ErrArg
	}
	for range n {
		for p := range m.silent {
			if !m.ended[p] {
				m.silent[p]++
			}
		}
		m.move()
	}
	return OK
}

func (m *model) move() {
	if !slices.Contains(m.ended, false) {
		m.mark = math.MaxInt
		return
	}
	var allowed []int
	for p, times := range m.times {
		switch {
		case m.ended[p]:
		case m.config.Idle > 0 && m.silent[p] >= m.config.Idle:
		case len(times) == 0 || slices.Max(times) < math.MinInt+m.config.Bound:
			allowed = append(allowed, math.MinInt)
		default:
			allowed = append(allowed, slices.Max(times)-m.config.Bound)
		}
	}
	if len(allowed) > 0 {
		m.mark = max(m.mark, slices.Min(allowed))
	}
}

func (m *model) panes() []Pane {
	values := map[Pane][]int{}
	for _, c := range m.counts {
		if end := c.begin + m.config.Size; end <= m.mark {
			p := Pane{c.begin, end, c.key, 0}
			values[p] = append(values[p], c.value)
		}
	}
	var list []Pane
	for p, v := range values {
		switch m.config.Fold {
		case 0:
			p.N = len(v)
		case 1:
			for _, x := range v {
				p.N += x
			}
		case 2:
			p.N = slices.Min(v)
		case 3:
			p.N = slices.Max(v)
		}
		list = append(list, p)
	}
	slices.SortFunc(list, func(a, b Pane) int {
		return cmp.Or(cmp.Compare(a.End, b.End), cmp.Compare(a.Start, b.Start), cmp.Compare(a.Key, b.Key))
	})
	return list
}

func randomConfig(r *rand.Rand) Config {
	slide := 1 + r.IntN(12)
	return Config{
		Size:  slide + r.IntN(9*slide+1),
		Slide: slide,
		Bound: r.IntN(2) * r.IntN(60),
		Idle:  []int{0, 1, 2, 1 + r.IntN(8), r.IntN(101)}[r.IntN(5)],
		Parts: 1 + r.IntN(4),
		Fold:  r.IntN(4),
	}
}

// randomEvents: times within a width about a base; some wild, some of parts that there are not.
func randomEvents(r *rand.Rand, c Config, base, width int) []Event {
	list := make([]Event, r.IntN(5))
	for i := range list {
		e := Event{Part: r.IntN(c.Parts), Key: []string{"", "a", "ab", "b", "\xff"}[r.IntN(5)], Value: r.IntN(21) - 10}
		e.At = base + r.IntN(width) - width/2
		switch r.IntN(250) {
		case 0:
			e.Part = r.IntN(20) - 10
		case 1:
			e.At = int(r.Uint64())
		case 2:
			e.Value = int(r.Uint64())
		}
		list[i] = e
	}
	return list
}

// randomTicks: mostly one or a few, at times about as many as make a part idle; some wrong.
func randomTicks(r *rand.Rand, c Config) int {
	switch r.IntN(20) {
	case 0:
		return []int{-1, 1001, math.MinInt, math.MaxInt}[r.IntN(4)]
	case 1:
		return 1000
	case 2, 3, 4:
		return max(0, c.Idle-1+r.IntN(3))
	case 5, 6, 7:
		return r.IntN(4)
	}
	return 1
}

func TestFlowAgainstModel(t *testing.T) {
	r := rand.New(rand.NewPCG(3, 4))
	bases := []int{0, -300, 1 << 40, math.MinInt + 60, math.MaxInt - 400, -1 << 62}
	widths := []int{120, 120, 120, 1 << 12, 1 << 25, 1 << 50, 1 << 62}
	for run := range 240 {
		c, base, width := randomConfig(r), bases[run%len(bases)], widths[run%len(widths)]
		f, m := mustNew(t, c), newModel(c)
		for step := range 60 {
			var n, wantN int
			var no, wantNo Errno
			switch do := r.IntN(12); {
			case step > 30 && do < 2:
				parts := []int{r.IntN(c.Parts + 1), r.IntN(c.Parts)}
				n, no = f.End(parts...)
				wantN, wantNo = m.end(parts)
			case do > 7:
				ticks := randomTicks(r, c)
				no = f.Tick(ticks)
				wantNo = m.tick(ticks)
			default:
				events := randomEvents(r, c, base+step*(width/24), width)
				n, no = f.Put(events...)
				wantN, wantNo = m.put(events)
			}
			got := fmt.Sprint(n, no, f.Mark(), f.Panes(), f.Late())
			want := fmt.Sprint(wantN, wantNo, m.mark, m.panes(), m.late)
			if got != want {
				t.Fatalf("P4 to P8: run %d, step %d, %+v:\n got %s\nwant %s", run, step, c, got, want)
			}
		}
	}
}
