package reeds

import "strings"

// Wide is a text with a rune for each byte, so that a test's regular expressions see bytes; Narrow makes bytes of the runes again.
func Wide(s string) string {
	var out strings.Builder
	for i := range len(s) {
		out.WriteRune(rune(s[i]))
	}
	return out.String()
}

// Narrow is the text of which Wide made this one.
func Narrow(s string) string {
	var out []byte
	for _, r := range s {
		out = append(out, byte(r))
	}
	return string(out)
}
