package sole

import (
	"slices"

	"ablaut/api"
	"ablaut/det"
	"ablaut/rel"
)

// sameAbove reports whether two relations have the same words above.
func sameAbove(a, b api.Net) (bool, api.Errno) {
	m, e := above(a)
	if e != api.OK {
		return false, e
	}
	n, e := above(b)
	if e != api.OK {
		return false, e
	}
	// Each set of words has one minimal acceptor. det.Same would do it, too, but not where the first word that shows the difference is a long one.
	return m.States == n.States && slices.Equal(m.Arcs, n.Arcs) && slices.Equal(m.Ends, n.Ends), api.OK
}

// above returns the minimal acceptor of the words above.
func above(n api.Net) (api.Net, api.Errno) {
	u, e := rel.Upper(n)
	if e != api.OK {
		return api.Net{}, e
	}
	return det.Min(u)
}
