package ripple

import "ripple/api"

// mayBe tells whether a cluster can be made by these settings (P9).
func mayBe(c api.Config) bool {
	return 1 <= c.Replicas && c.Replicas <= api.MaxReplicas &&
		1 <= c.Room && c.Room <= api.MaxRoom &&
		edgesMayBe(c.Edges, c.Replicas)
}

func edgesMayBe(edges []api.Edge, replicas int) bool {
	var linked [api.MaxReplicas][api.MaxReplicas]bool
	for _, e := range edges {
		low, high := min(e.A, e.B), max(e.A, e.B)
		if low < 0 || high >= replicas || low == high || linked[low][high] {
			return false
		}
		linked[low][high] = true
	}
	return true
}
