// Package pairs goes through texts in which a backslash and the byte behind it go together, as they do in scripts.
package pairs

import "iter"

// Each yields the parts of a text from the left, each with its place: a backslash with the byte behind it, or a byte alone (so also a backslash that ends the text).
func Each(s string) iter.Seq2[int, string] {
	return func(yield func(int, string) bool) {
		for at := 0; at < len(s); {
			size := 1
			if s[at] == '\\' && at+1 < len(s) {
				size = 2
			}
			if !yield(at, s[at:at+size]) {
				return
			}
			at += size
		}
	}
}
