// Package letters tells with which bytes names, variables and numbers are written, for all layers that read or check them.
package letters

// Small tells whether a byte is one of a to z.
func Small(b byte) bool { return 'a' <= b && b <= 'z' }

// Capital tells whether a byte is one of A to Z.
func Capital(b byte) bool { return 'A' <= b && b <= 'Z' }

// Digit tells whether a byte is one of 0 to 9.
func Digit(b byte) bool { return '0' <= b && b <= '9' }

// Inner tells whether a byte may stand behind the first one of a name or a variable.
func Inner(b byte) bool { return Small(b) || Capital(b) || Digit(b) || b == '_' }

// Run is how many bytes at the beginning of a text are of one kind.
func Run(s string, is func(b byte) bool) int {
	for i := range len(s) {
		if !is(s[i]) {
			return i
		}
	}
	return len(s)
}
