package text

import (
	"hornbook/api"
)

// givenUp is what a reader panics with: a type of its own, so that nothing else that goes wrong is taken for it.
type givenUp struct {
	fault api.Fault
}

func badToken(at int) givenUp {
	return givenUp{api.Fault{Code: api.ErrToken, At: at}}
}

// caught tells what work came to: what it made, or the fault with which it was given up.
func caught[T any](work func() T) (made T, fault api.Fault) {
	defer func() {
		if x := recover(); x != nil {
			own, ok := x.(givenUp)
			if !ok {
				panic(x)
			}
			fault = own.fault
		}
	}()
	return work(), api.Fault{}
}
