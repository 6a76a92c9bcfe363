package search

import "trawl/api"

func isConfig(c api.Config) bool {
	return isFrom(1, c.Budget, api.MaxBudget) && isFrom(0, c.Depth, api.MaxDepth) && isFrom(0, c.Chain, api.MaxChain) &&
		isFrom(1, c.Tries, api.MaxTries) && isFrom(1, len(c.Roots), api.MaxRoots)
}

func isFrom(least, x, most int) bool {
	return least <= x && x <= most
}
