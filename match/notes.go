package match

// none is a cell without a place.
const none = -1

// notes are lists of cells, all of one length, each with a place or none. A list is a tree of pairs: the halves of the list, the halves of these, and so on, down to the cells. Each pair that there is has a number, so lists are the same just if their numbers are, and one that differs from another in a cell shares all but the pairs above that cell with it.
type notes struct {
	half    int // of a list's length
	pairs   []pair
	numbers map[pair]int
}

// pair is two halves: numbers of pairs, or what stands in two cells.
type pair struct{ left, right int }

func newNotes(cells int) notes {
	n := notes{half: 1}
	for 2*n.half < cells {
		n.half *= 2
	}
	return n
}

// forget leaves only the list without any place: it has the number 0, as each of its halves has. So cells tell a place by the number behind it.
func (n *notes) forget() {
	n.pairs = append(n.pairs[:0], pair{})
	n.numbers = map[pair]int{{}: 0}
}

// get is what stands in a cell.
func (n *notes) get(list, cell int) int {
	for half := n.half; half > 0; half /= 2 {
		if cell&half == 0 {
			list = n.pairs[list].left
		} else {
			list = n.pairs[list].right
		}
	}
	return list - 1
}

// put is a list with something else in a cell.
func (n *notes) put(list, cell, place int) int { return n.putBelow(list, cell, place, n.half) }

func (n *notes) putBelow(list, cell, place, half int) int {
	if half == 0 {
		return place + 1
	}
	p := n.pairs[list]
	if cell&half == 0 {
		p.left = n.putBelow(p.left, cell, place, half/2)
	} else {
		p.right = n.putBelow(p.right, cell, place, half/2)
	}
	return n.number(p)
}

func (n *notes) number(p pair) int {
	i, ok := n.numbers[p]
	if !ok {
		i = len(n.pairs)
		n.pairs = append(n.pairs, p)
		n.numbers[p] = i
	}
	return i
}
