package tide

const (
	maxSize  = 1000
	maxOver  = 10
	maxBound = 1000
	maxIdle  = 100
	maxParts = 8
	maxTicks = 1000
)

func good(c Config) bool {
	return goodWidths(c.Size, c.Slide) &&
		within(c.Bound, 0, maxBound) &&
		within(c.Idle, 0, maxIdle) &&
		within(c.Parts, 1, maxParts) &&
		within(c.Fold, 0, foldCount-1)
}

// goodWidths multiplies last, when slide is known to be too small to overflow.
func goodWidths(size, slide int) bool {
	return within(size, 1, maxSize) && within(slide, 1, size) && size <= maxOver*slide
}

func within(n, least, greatest int) bool {
	return least <= n && n <= greatest
}
