package tide

import (
	"maps"
	"math"
	"slices"
)

const foldCount = 4

// foldStarts has for each fold the number that its first value is folded into
// and that does not weigh against any value.
var foldStarts = [foldCount]int{0, 0, math.MaxInt, math.MinInt}

// tally is what was folded so far in one window, by keys.
type tally map[string]int

func (t tally) add(key string, value int, fold int) {
	folds := [foldCount]func(sofar, value int) int{countUp, sumUp, lesser, greater}
	sofar, found := t[key]
	if !found {
		sofar = foldStarts[fold]
	}
	t[key] = folds[fold](sofar, value)
}

// panes tells what was folded, rising by keys.
func (t tally) panes(begin, end int) []Pane {
	list := make([]Pane, 0, len(t))
	for _, key := range slices.Sorted(maps.Keys(t)) {
		list = append(list, Pane{begin, end, key, t[key]})
	}
	return list
}

func countUp(sofar, _ int) int { return sofar + 1 }

func sumUp(sofar, value int) int { return sofar + value }

func lesser(sofar, value int) int { return min(sofar, value) }

func greater(sofar, value int) int { return max(sofar, value) }
