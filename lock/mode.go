package lock

import "quirestock/api"

// isMode tells whether m is one of the five modes.
func isMode(m int) bool { return m >= api.LIS && m <= api.LX }

// fit tells whether two may have these modes at one time.
func fit(a, b int) bool {
	lesser, greater := min(a, b), max(a, b)
	switch lesser {
	case api.LIS:
		return greater != api.LX
	case api.LIX, api.LS:
		return greater == lesser
	}
	return false
}

// join is the least mode that allows both. The modes rise by what they allow, but
// for LIX and LS, of which neither allows the other.
func join(a, b int) int {
	if min(a, b) == api.LIX && max(a, b) == api.LS {
		return api.LSIX
	}
	return max(a, b)
}
