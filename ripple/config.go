package ripple

import "ripple/api"

// links: who are neighbours, told from both sides.
type links [api.MaxReplicas][api.MaxReplicas]bool

// sizesMayBe tells whether a cluster can have so many replicas, and so much room (P9).
func sizesMayBe(c api.Config) bool {
	return 1 <= c.Replicas && c.Replicas <= api.MaxReplicas &&
		1 <= c.Room && c.Room <= api.MaxRoom
}

// link gives the links of edges between so many replicas, which must be a number that may be; false, if there is an edge that may not (P9).
func link(edges []api.Edge, replicas int) (links, bool) {
	var linked links
	for _, e := range edges {
		low, high := min(e.A, e.B), max(e.A, e.B)
		if low < 0 || high >= replicas || low == high || linked[low][high] {
			return links{}, false
		}
		linked[low][high], linked[high][low] = true, true
	}
	return linked, true
}
