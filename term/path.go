package term

import (
	"hornbook/api"
)

// At: P6.
func At(t api.Term, path []int) (api.Term, api.Errno) {
	if err := Check(t); err != api.OK {
		return api.Term{}, err
	}
	place := placeOf(&t, path)
	if place == nil {
		return api.Term{}, api.ErrAbsent
	}
	return Copy(*place), api.OK
}

// Put: P6.
func Put(t api.Term, path []int, u api.Term) (api.Term, api.Errno) {
	if err := checkAll(t, u); err != api.OK {
		return api.Term{}, err
	}
	whole := Copy(t)
	place := placeOf(&whole, path)
	if place == nil {
		return api.Term{}, api.ErrAbsent
	}
	*place = Copy(u)
	return whole, api.OK
}

// placeOf answers nil if there is no part at the path.
func placeOf(t *api.Term, path []int) *api.Term {
	for _, k := range path {
		if k < 0 || k >= len(t.Args) {
			return nil
		}
		t = &t.Args[k]
	}
	return t
}
