// Package ts is layer 1: timestamps and their orders. See shared/doc/01-ts.md.
package ts

import "backwash/api"

// Right timestamp? What stands behind its coordinates has to be 0, so that one timestamp has one form, and == may hold two against each other.
func Right(t api.Time) bool {
	if t.D < 1 || t.D > api.MaxDepth {
		return false
	}
	for i, c := range t.C {
		if c < 0 || c > greatest(t.D, i) {
			return false
		}
	}
	return true
}

// Le: is one at or before another one? Timestamps of unlike depths are not, either way: they stand in different scopes.
func Le(a, b api.Time) bool {
	if !paired(a, b) {
		return false
	}
	for i, c := range a.C {
		if c > b.C[i] {
			return false
		}
	}
	return true
}

// Less: is one ahead of another one, in the one order?
func Less(a, b api.Time) bool {
	if !Right(a) || !Right(b) {
		return false
	}
	for i := range min(a.D, b.D) {
		if a.C[i] != b.C[i] {
			return a.C[i] < b.C[i]
		}
	}
	return a.D < b.D
}

// Join: the greater ones.
func Join(a, b api.Time) (api.Time, bool) {
	if !paired(a, b) {
		return api.Time{}, false
	}
	for i, c := range b.C {
		a.C[i] = max(a.C[i], c)
	}
	return a, true
}

// Meet: the lesser ones.
func Meet(a, b api.Time) (api.Time, bool) {
	if !paired(a, b) {
		return api.Time{}, false
	}
	for i, c := range b.C {
		a.C[i] = min(a.C[i], c)
	}
	return a, true
}

// Enter a scope. The new coordinate is there already: what stands behind a right timestamp's coordinates is 0.
func Enter(t api.Time) (api.Time, bool) {
	if !Right(t) || t.D == api.MaxDepth {
		return api.Time{}, false
	}
	t.D++
	return t, true
}

// Leave a scope.
func Leave(t api.Time) (api.Time, bool) {
	if !Right(t) || t.D == 1 {
		return api.Time{}, false
	}
	t.D--
	t.C[t.D] = 0
	return t, true
}

// Next of a loop.
func Next(t api.Time) (api.Time, bool) {
	if !Right(t) {
		return api.Time{}, false
	}
	last := t.D - 1
	if t.C[last] == greatest(t.D, last) {
		return api.Time{}, false
	}
	t.C[last]++
	return t, true
}

// paired: only right timestamps of as many coordinates can be held against each other coordinate by coordinate.
func paired(a, b api.Time) bool {
	return a.D == b.D && Right(a) && Right(b)
}

// greatest number that the coordinate i may be, of a timestamp of d coordinates.
func greatest(d, i int) int {
	switch {
	case i >= d:
		return 0
	case i == 0:
		return api.MaxEpoch
	}
	return api.MaxCount
}
