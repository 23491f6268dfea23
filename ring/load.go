package ring

// The bounds of loads and factors. A factor is told in hundredths: the least one is 1.
const (
	mostLoad    = 1 << 20
	hundredths  = 100
	leastFactor = 1 * hundredths
	mostFactor  = 100 * hundredths
)

// counted is what a load counts as. Pick counts it so, too: else there might be no load below the bound.
func counted(load int) int { return min(max(load, 0), mostLoad) }

// boundOf is the bound of all loads together, of so many nodes; there is one at least.
func boundOf(all, factor, nodes int) int {
	// An int may have 32 bits, in which the product has no room; what comes out has.
	times := int64(all+1) * int64(min(max(factor, leastFactor), mostFactor))
	by := int64(hundredths * nodes)
	return int((times + by - 1) / by)
}
