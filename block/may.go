package block

import (
	"hayloft/api"
	"hayloft/value"
)

// May tells, by a head, whether a block may have a value that a term asks for.
func May(i Info, t api.Term) bool {
	full := i.Nulls < i.Many
	switch {
	case t.Op == api.TermNull:
		return i.Nulls > 0
	case t.Op == api.TermFull:
		return full
	}
	// Of a null no other term is true, nor is one that holds a value against a null.
	return full && t.Value.Kind != api.KindNull && within(i, t)
}

// within tells whether between a head's least and greatest value there may be one of which the order asked for is true.
func within(i Info, t api.Term) bool {
	least := value.Compare(i.Min, t.Value)
	greatest := value.Compare(i.Max, t.Value)
	switch t.Op {
	case api.TermEqual:
		return least <= 0 && greatest >= 0
	case api.TermUnlike:
		return least != 0 || greatest != 0
	case api.TermAtMost:
		if least == 0 {
			return true
		}
		fallthrough
	case api.TermBelow:
		return least < 0
	case api.TermAtLeast:
		if greatest == 0 {
			return true
		}
		fallthrough
	case api.TermAbove:
		return greatest > 0
	}
	return false
}
