package term

import "purlin/api"

// signs are the texts that structures of two have beside names.
var signs = [...]string{"=", ":=", "@", "+", "-", "*", "<", "=<", ">", ">=", "=:=", "=\\="}

// rule is what the cells of one kind must be: bare is a cell with nothing but what its kind has, fits tells of that.
type rule struct {
	kind api.Kind
	bare func(c api.Cell) api.Cell
	fits func(c api.Cell) bool
}

// rules has one for each kind that there is.
func rules() []rule {
	number := between(-api.MaxNumber, api.MaxNumber)
	arity := between(1, api.MaxArity)
	node := between(-1, api.MaxNodes-1)
	return []rule{{
		kind: api.Int,
		bare: func(c api.Cell) api.Cell { return api.Cell{Kind: c.Kind, N: c.N} },
		fits: func(c api.Cell) bool { return number(c.N) },
	}, {
		kind: api.Atom,
		bare: func(c api.Cell) api.Cell { return api.Cell{Kind: c.Kind, Text: c.Text} },
		fits: func(c api.Cell) bool { return IsName(c.Text) },
	}, {
		kind: api.Struct,
		bare: func(c api.Cell) api.Cell { return api.Cell{Kind: c.Kind, Text: c.Text, N: c.N} },
		fits: func(c api.Cell) bool { return IsName(c.Text) && arity(c.N) || isSign(c.Text) && c.N == 2 },
	}, {
		kind: api.Var,
		bare: func(c api.Cell) api.Cell { return api.Cell{Kind: c.Kind, Var: c.Var} },
		fits: func(c api.Cell) bool { return node(c.Var.Node) && c.Var.Number >= 0 },
	}}
}

func between(low, high int) func(n int) bool {
	return func(n int) bool { return low <= n && n <= high }
}

func isSign(s string) bool {
	for _, sign := range signs {
		if sign == s {
			return true
		}
	}
	return false
}

// rightCells tells whether each cell is whole in itself, whatever stands beside it.
func rightCells(l ...api.Cell) bool {
	table := rules()
	for _, c := range l {
		if !obeys(c, table) {
			return false
		}
	}
	return true
}

func obeys(c api.Cell, table []rule) bool {
	for _, r := range table {
		if r.kind == c.Kind {
			return c == r.bare(c) && r.fits(c)
		}
	}
	return false
}
