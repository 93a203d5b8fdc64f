package match

import "paddock/api"

// keeper counts the steps of an expression with back-references: a situation is an instruction, a place, and what is kept.
type keeper struct {
	course
	notes
	cells [api.MaxGroups + 1]int // of each group that is named, its first cell; of others noCell
	slots int                    // the cell of slot 0
	later map[int][]situation    // what is come to further on, by the place
	left  []situation
	next  []int
}

// situation is one of a place; kept is the number of a list of cells.
type situation struct{ inst, kept uint32 }

// A group that is named has cells for where the span that it has kept begins and ends, and where it was opened; and one that is left empty, so that all of them stand in one row. Each slot has a cell.
const (
	noCell     = -1
	keptFrom   = 0
	keptTo     = 1
	opened     = 2
	groupCells = 4
)

func newKeeper(n api.Node, p api.Prog, c course) *keeper {
	k := &keeper{course: c}
	for g := range k.cells {
		k.cells[g] = noCell
	}
	k.name(&n)
	k.notes = newNotes(k.slots + p.Slots)
	return k
}

// name gives cells to all groups that back-references of a tree name.
func (k *keeper) name(n *api.Node) {
	if n.Kind == api.NodeBack && k.cells[n.Group] == noCell {
		k.cells[n.Group] = k.slots
		k.slots += groupCells
	}
	for i := range n.Kids {
		k.name(&n.Kids[i])
	}
}

// stepsFrom goes from place to place: what was met at one that lies behind can't be come to again, and is forgotten.
func (k *keeper) stepsFrom(begin, most int) (int, bool) {
	k.forget()
	k.later = map[int][]situation{begin: {{}}}
	steps, ends := 0, false
	for at := begin; len(k.later) > 0; at++ {
		k.left = k.later[at]
		delete(k.later, at)
		met := map[situation]struct{}{}
		for len(k.left) > 0 {
			last := len(k.left) - 1
			x := k.left[last]
			k.left = k.left[:last]
			count := len(met)
			if met[x] = (struct{}{}); len(met) == count {
				continue
			}
			if steps++; steps > most {
				return steps, false
			}
			ends = ends || k.code[x.inst].Kind == api.InstMatch
			k.goOn(x, at)
		}
	}
	return steps, ends
}

// goOn leaves to be gone through what a situation goes on to.
func (k *keeper) goOn(x situation, at int) {
	i := &k.code[x.inst]
	behind := situation{x.inst + 1, x.kept}
	switch i.Kind {
	case api.InstMatch:
	case api.InstSet:
		if k.takes(int(x.inst), at) {
			k.leave(behind, at, at+1)
		}
	case api.InstBack:
		if to, ok := k.again(x.kept, k.cells[i.Group], at); ok {
			k.leave(behind, at, to)
		}
	case api.InstMoved:
		if k.get(x.kept, k.slots+i.Slot) != at {
			k.leave(behind, at, at)
		}
	default:
		kept := k.keep(i, x.kept, at)
		k.next = k.behind(k.next[:0], int(x.inst), at)
		for _, inst := range k.next {
			k.leave(situation{uint32(inst), kept}, at, at)
		}
	}
}

// leave leaves a situation of a place to be gone through, from another place.
func (k *keeper) leave(x situation, at, to int) {
	if to == at {
		k.left = append(k.left, x)
		return
	}
	k.later[to] = append(k.later[to], x)
}

// again tells where the bytes that a group has kept end, if they stand at a place.
func (k *keeper) again(kept uint32, cell, at int) (int, bool) {
	from, to := k.get(kept, cell+keptFrom), k.get(kept, cell+keptTo)
	end := at + to - from
	if from == none || end > len(k.text) || k.text[from:to] != k.text[at:end] {
		return 0, false
	}
	return end, true
}

// keep is what is kept behind an instruction at a place.
func (k *keeper) keep(i *api.Inst, kept uint32, at int) uint32 {
	switch i.Kind {
	case api.InstMark:
		return k.put(kept, k.slots+i.Slot, at)
	case api.InstOpen:
		if cell := k.cells[i.Group]; cell != noCell {
			return k.put(kept, cell+opened, at)
		}
	case api.InstClose:
		if cell := k.cells[i.Group]; cell != noCell {
			return k.put(kept, cell+keptFrom, k.get(kept, cell+opened), at)
		}
	case api.InstClear:
		for _, cell := range k.cells[i.Group : i.Last+1] {
			if cell != noCell {
				kept = k.put(kept, cell, none, none, none)
			}
		}
	}
	return kept
}
