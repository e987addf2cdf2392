package term

import (
	"strconv"

	"hornbook/api"
)

// General: P5.
func General(a, b api.Term) (api.Term, api.Errno) {
	if err := checkAll(a, b); err != api.OK {
		return api.Term{}, err
	}
	given := map[string]int64{}
	return generalize(a, b, func(a, b api.Term) api.Term {
		key := string(appendKey(appendKey(nil, a), b))
		n, again := given[key]
		if !again {
			n = int64(len(given))
			given[key] = n
		}
		return variable(n)
	}), api.OK
}

// generalize asks stand, from the left, for what stands for two parts that have nothing in common.
func generalize(a, b api.Term, stand func(a, b api.Term) api.Term) api.Term {
	if a.Kind == api.Var || orderTop(a, b) != 0 {
		return stand(a, b)
	}
	if a.Kind != api.Comp {
		return Copy(a)
	}
	args := make([]api.Term, len(a.Args))
	for k := range args {
		args[k] = generalize(a.Args[k], b.Args[k], stand)
	}
	return api.Term{Kind: api.Comp, Name: a.Name, Args: args}
}

// appendKey writes t so that it can be read back, and ends where it must end:
// so unlike terms, and unlike pairs of terms, have unlike keys.
func appendKey(key []byte, t api.Term) []byte {
	for p := range parts(t) {
		key = appendNumber(key, int64(p.Kind))
		key = appendNumber(key, p.N)
		key = appendNumber(key, int64(len(p.Args)))
		key = appendNumber(key, int64(len(p.Name)))
		key = append(key, p.Name...)
	}
	return key
}

func appendNumber(key []byte, n int64) []byte {
	return append(strconv.AppendInt(key, n, 10), ' ')
}
