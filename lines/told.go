package lines

import "paddock/api"

// letters has at a byte's place the letter that tells it behind a backslash; 0: none does.
var letters = [14]byte{0x07: 'a', 0x08: 'b', 0x09: 't', 0x0a: 'n', 0x0b: 'v', 0x0c: 'f', 0x0d: 'r'}

// octals has the first and the last byte of each range that is told by octal digits.
var octals = [3][2]int{{0x00, 0x06}, {0x0e, 0x1f}, {0x7f, 0xff}}

// anyOctal tells whether a byte from low to high is told by octal digits.
func anyOctal(low, high int) bool {
	for _, r := range octals {
		if low <= r[1] && r[0] <= high {
			return true
		}
	}
	return false
}

// tell puts a byte, told, behind out.
func tell(out []byte, b byte) []byte {
	switch {
	case b == '\\':
		return append(out, '\\', '\\')
	case int(b) < len(letters) && letters[b] != 0:
		return append(out, '\\', letters[b])
	case anyOctal(int(b), int(b)):
		return append(out, '\\', '0'+(b>>6), '0'+(b>>3&7), '0'+(b&7))
	}
	return append(out, b)
}

// untell reads the told byte at a place: the byte, where it ends, true; or the first place at which none goes on, and false.
func untell(s string, at int) (byte, int, bool) {
	if at == len(s) {
		return 0, at, false
	}
	if s[at] != '\\' {
		return untellPlain(s[at], at)
	}
	at++
	if at == len(s) {
		return 0, at, false
	}
	if s[at] == '\\' {
		return '\\', at + 1, true
	}
	for b := range len(letters) {
		if letters[b] != 0 && letters[b] == s[at] {
			return byte(b), at + 1, true
		}
	}
	return untellOctal(s, at)
}

func untellPlain(b byte, at int) (byte, int, bool) {
	if b < 0x20 || b >= 0x7f {
		return 0, at, false
	}
	return b, at + 1, true
}

// untellOctal asks of each digit whether a byte that is told so begins like this: a byte that has a letter, or is told as it is, may not be told by digits too.
func untellOctal(s string, at int) (byte, int, bool) {
	value := 0
	for k := range 3 {
		if at == len(s) || s[at] < '0' || s[at] > '7' {
			return 0, at, false
		}
		value = value*8 + int(s[at]-'0')
		rest := 1 << (3 * (2 - k))
		if !anyOctal(value*rest, value*rest+rest-1) {
			return 0, at, false
		}
		at++
	}
	return byte(value), at, true
}

// List writes a text so that each byte can be told, in rows of at most so many bytes.
func List(s string, width int) (string, api.Errno) {
	if width < 0 {
		return "", api.ErrRange
	}
	var out, one []byte
	row := 0
	for i := range len(s) {
		one = tell(one[:0], s[i])
		if width > 1 && row > 0 && row+len(one) > width-1 {
			out = append(out, '\\', lf)
			row = 0
		}
		out = append(out, one...)
		row += len(one)
	}
	return string(append(out, '$', lf)), api.OK
}

// Unlist reads what List writes; the place of the fault, where there is one.
func Unlist(s string) (string, api.Errno, int) {
	var out []byte
	broken := false // a row ends just ahead: a further told byte must come
	at := 0
	for {
		if !broken && begins(s, at, '$', lf) {
			if at+2 < len(s) {
				return "", api.ErrTold, at + 2
			}
			return string(out), api.OK, 0
		}
		if !broken && len(out) > 0 && begins(s, at, '\\', lf) {
			broken = true
			at += 2
			continue
		}
		b, next, ok := untell(s, at)
		if !ok {
			return "", api.ErrTold, next
		}
		out = append(out, b)
		broken = false
		at = next
	}
}

// begins tells whether these two bytes stand at a place.
func begins(s string, at int, first, second byte) bool {
	return at+1 < len(s) && s[at] == first && s[at+1] == second
}

// Quote writes a text in quotes.
func Quote(s string) string {
	out := []byte{'"'}
	for i := range len(s) {
		if s[i] == '"' {
			out = append(out, '\\', '"')
		} else {
			out = tell(out, s[i])
		}
	}
	return string(append(out, '"'))
}

// Unquote reads what Quote writes at a text's beginning, and where it ends; the place of the fault, where there is one.
func Unquote(s string) (string, int, api.Errno, int) {
	if s == "" || s[0] != '"' {
		return "", 0, api.ErrTold, 0
	}
	var out []byte
	at := 1
	for {
		if at < len(s) && s[at] == '"' {
			return string(out), at + 1, api.OK, 0
		}
		if begins(s, at, '\\', '"') {
			out = append(out, '"')
			at += 2
			continue
		}
		b, next, ok := untell(s, at)
		if !ok {
			return "", 0, api.ErrTold, next
		}
		out = append(out, b)
		at = next
	}
}
