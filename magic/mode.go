package magic

import (
	"hornbook/api"
)

// What stands in the names of moded and of asked predicates.
const (
	caret    = "^"
	question = "?"
	bound    = 'b'
	free     = 'f'
)

// variables that are known, by their numbers.
type variables map[int64]struct{}

// learn the variables of a flat atom.
func (known variables) learn(atom api.Term) {
	for _, arg := range atom.Args {
		if arg.Kind == api.Var {
			known[arg.N] = struct{}{}
		}
	}
}

// mode of a flat atom: a letter for each Arg.
func (known variables) mode(atom api.Term) string {
	letters := make([]byte, len(atom.Args))
	for at, arg := range atom.Args {
		letters[at] = bound
		if _, is := known[arg.N]; arg.Kind == api.Var && !is {
			letters[at] = free
		}
	}
	return string(letters)
}

// moded: the atom as it is answered in a mode. It shares the atom's memory.
func moded(atom api.Term, mode string) api.Term {
	return flat(atom.Name+caret+mode, atom.Args)
}

// asked: what asks for the atom in a mode.
func asked(atom api.Term, mode string) api.Term {
	var args []api.Term
	for at, arg := range atom.Args {
		if mode[at] == bound {
			args = append(args, arg)
		}
	}
	return flat(question+atom.Name+caret+mode, args)
}

func flat(name string, args []api.Term) api.Term {
	if len(args) == 0 {
		return api.Term{Kind: api.Atom, Name: name}
	}
	return api.Term{Kind: api.Comp, Name: name, Args: args}
}
