package syntax

// binding is how tightly a term's text holds together: rows of the grammar, from the loosest on.
type binding int

const (
	asAt binding = iota
	asRel
	asSum
	asProd
	asPrim
)

// bindingOf is that of a structure with this name or sign; of all that has no sign it is asPrim.
func bindingOf(text string) binding {
	switch text {
	case "@":
		return asAt
	case "=", ":=", "<", "=<", ">", ">=", "=:=", "=\\=":
		return asRel
	case "+", "-":
		return asSum
	case "*":
		return asProd
	}
	return asPrim
}

// sides are how tightly the parts on both sides of a sign must bind.
func sides(b binding) (left, right binding) {
	switch b {
	case asAt:
		return asRel, asSum
	case asRel:
		return asSum, asSum
	case asSum:
		return asSum, asProd
	}
	return asProd, asPrim
}
