package subst

// table is what each byte is turned into.
type table [256]byte

// tableOf turns each byte of one side into that of the other at the first place where it stands; where there is none, it stays.
func tableOf(from, to string) table {
	var t table
	for i := range t {
		t[i] = byte(i)
	}
	for i := min(len(from), len(to)) - 1; i >= 0; i-- { // backward, so that the first place is told last
		t[from[i]] = to[i]
	}
	return t
}

func (t table) turn(s string) string {
	out := []byte(s)
	for i, c := range out {
		out[i] = t[c]
	}
	return string(out)
}

// letters is which case they are turned into.
type letters int

const (
	asTheyAre letters = iota
	upper
	lower
	lettersCount
)

// cases has the table of each.
func cases() [lettersCount]table {
	const big, small = "ABCDEFGHIJKLMNOPQRSTUVWXYZ", "abcdefghijklmnopqrstuvwxyz"
	return [lettersCount]table{
		asTheyAre: tableOf("", ""),
		upper:     tableOf(small, big),
		lower:     tableOf(big, small),
	}
}
