package tide

import "math"

const (
	minTime = math.MinInt
	maxTime = math.MaxInt
)

// less is a time less a span of 0 or more, held at minTime where the difference would wrap round.
func less(at, span int) int {
	return max(at, minTime+span) - span
}

// begins tells the begins of the windows that have a time, rising. It goes by
// how far the time lies behind each begin, since a begin or an end beyond the
// times there are could not be written down.
func begins(at, size, slide int) []int {
	// The rest may be below 0: it is only a number to count slides from.
	rest := at % slide
	farthest := rest + (size-1-rest)/slide*slide
	var list []int
	for behind := farthest; behind >= 0; behind -= slide {
		beginIsTime := at >= minTime+behind
		endIsTime := at <= maxTime-(size-behind)
		if beginIsTime && endIsTime {
			list = append(list, at-behind)
		}
	}
	return list
}
