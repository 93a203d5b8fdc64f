package match

const (
	// none is a cell without a place.
	none = -1
	// rowBits is how many bits of a cell's number tell where it stands in a row.
	rowBits = 3
	rowSize = 1 << rowBits
)

// notes are lists of cells, all of one length, each with a place or none. A list is a tree of rows, down to those that have the cells themselves. Each row that there is has a number, so lists are the same just if their numbers are, and one that differs from another in a cell shares all but the rows above that cell with it.
type notes struct {
	deep    int // how many bits of a cell's number tell the row that it stands in
	rows    []row
	numbers map[row]uint32
}

// row is numbers of rows, or what stands in some cells: the number behind a place, so that 0 is none.
type row [rowSize]uint32

func newNotes(cells int) notes {
	n := notes{}
	for rowSize<<n.deep < cells {
		n.deep += rowBits
	}
	return n
}

// forget leaves only the list without any place: it has the number 0, as all of its rows have.
func (n *notes) forget() {
	n.rows = append(n.rows[:0], row{})
	n.numbers = map[row]uint32{{}: 0}
}

// get is what stands in a cell.
func (n *notes) get(list uint32, cell int) int {
	for bits := n.deep; bits >= 0; bits -= rowBits {
		list = n.rows[list][cell>>bits%rowSize]
	}
	return int(list) - 1
}

// put is a list with other places in a cell and in those behind it, which stand in the same row.
func (n *notes) put(list uint32, cell int, places ...int) uint32 {
	return n.putBelow(list, cell, n.deep, places)
}

func (n *notes) putBelow(list uint32, cell, bits int, places []int) uint32 {
	r := n.rows[list]
	in := cell >> bits % rowSize
	if bits > 0 {
		r[in] = n.putBelow(r[in], cell, bits-rowBits, places)
	} else {
		for i, p := range places {
			r[in+i] = uint32(p + 1)
		}
	}
	return n.number(r)
}

func (n *notes) number(r row) uint32 {
	i, ok := n.numbers[r]
	if !ok {
		i = uint32(len(n.rows))
		n.rows = append(n.rows, r)
		n.numbers[r] = i
	}
	return i
}
