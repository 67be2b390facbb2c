package scope

import "syntagma/api"

// reach is that of one binder's name, and, around it, the reaches in which that binder stands; nil is where nothing is bound.
type reach struct {
	name   string
	by     Binder
	around *reach
}

// none is the binder of what has none.
func none() Binder { return Binder{Node: -1, Branch: -1} }

// binder is the innermost one of that name.
func (r *reach) binder(name string) Binder {
	for ; r != nil; r = r.around {
		if r.name == name {
			return r.by
		}
	}
	return none()
}

// ofKid is where the k-th child of the node n stands, which itself stands in r, at the place i of its tree.
func (r *reach) ofKid(n api.Node, i, k int) *reach {
	switch n.Kind {
	case api.EFun, api.ERec:
		return &reach{n.Name, Binder{i, -1}, r}
	case api.ELet:
		if k == 1 {
			return &reach{n.Name, Binder{i, -1}, r}
		}
	case api.ECase:
		// The first child is what the case looks at; the branches are those behind it.
		if k > 0 {
			return &reach{n.L[k-1].Var, Binder{i, k - 1}, r}
		}
	}
	return r
}
