package posix

import "slices"

// turn is where ways through parts that stand one behind another have come to: so many are done.
type turn struct {
	done int
	end
}

// stage is what tells turns apart: of two at the same one whatever comes behind is the same.
type stage struct {
	done int
	spot
}

// course goes through the turns of a part's ways, those of the better ways first: so it comes to each stage by the best way, and passes over it from then on.
type course struct {
	now   turn
	ahead int // how many were left when now was taken
	left  []turn
	met   map[stage]struct{}
}

func newCourse(from spot) *course {
	return &course{left: []turn{{end: end{spot: from}}}, met: map[stage]struct{}{}}
}

// goOn goes on from now to a turn: the better ones are to be told first.
func (c *course) goOn(done int, e end) { c.left = append(c.left, turn{done, e}) }

// next takes the next turn; false: there is none any more.
func (c *course) next() bool {
	slices.Reverse(c.left[c.ahead:])
	for len(c.left) > 0 {
		c.ahead = len(c.left) - 1
		c.now = c.left[c.ahead]
		c.left = c.left[:c.ahead]
		at := stage{c.now.done, c.now.spot}
		if _, again := c.met[at]; !again {
			c.met[at] = struct{}{}
			return true
		}
	}
	return false
}
