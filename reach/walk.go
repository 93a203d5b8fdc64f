package reach

import (
	"slices"

	"paddock/api"
	"paddock/program"
)

// walker gives what goes through the live steps of a right program, breadth first, and hands each, with the steps that it may lead to, to do. Of two steps that are as far from the beginning the one whose way has the lesser numbers comes first, as Flow tells them rising.
func walker(p api.Program) func(do func(step int, to []int)) {
	return func(do func(step int, to []int)) {
		if len(p.Steps) == 0 {
			return
		}
		seen := map[int]struct{}{0: {}}
		for queue := []int{0}; len(queue) > 0; queue = queue[1:] {
			to := leads(p, queue[0])
			do(queue[0], to)
			for _, next := range to {
				if _, again := seen[next]; !again {
					seen[next] = struct{}{}
					queue = append(queue, next)
				}
			}
		}
	}
}

// leads are the steps that a step may lead to; the cycle's end is none.
func leads(p api.Program, step int) []int {
	return slices.DeleteFunc(program.Flow(p, step), func(to int) bool { return to == len(p.Steps) })
}

// longest is the greatest number of steps of a way; false: steps may come again. A step's length is known when all that lead to it have theirs; what comes again waits for itself, and never has one.
func longest(walk func(do func(step int, to []int))) (int, bool) {
	leads := map[int][]int{}
	waits := map[int]int{} // of each step how many that lead to it have no length yet
	walk(func(step int, to []int) {
		leads[step] = to
		for _, next := range to {
			waits[next]++
		}
	})
	lengths := map[int]int{0: 1} // of the longest way to a step that is known so far
	var ready []int
	if len(leads) > 0 && waits[0] == 0 {
		ready = append(ready, 0)
	}
	done, most := 0, 0
	for ; len(ready) > 0; ready = ready[1:] {
		step := ready[0]
		done++
		most = max(most, lengths[step])
		for _, next := range leads[step] {
			lengths[next] = max(lengths[next], lengths[step]+1)
			waits[next]--
			if waits[next] == 0 {
				ready = append(ready, next)
			}
		}
	}
	if done < len(leads) {
		return 0, false
	}
	return most, true
}
