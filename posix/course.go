package posix

import "slices"

// turn is where ways through parts that stand one behind another have come to: so many are done.
type turn struct {
	done int
	end
}

// stage is what tells turns apart: how many are done, up to a number from which on fewer are only better, and the spot.
type stage struct {
	done int
	spot
}

// course goes through the turns of a part's ways, those of the better ways first: so it comes to each by its best way. A turn at which it has been with no more done goes on to nothing new, and is passed over.
type course struct {
	now   turn
	alike int
	ahead int // how many were left when now was taken
	left  []turn
	met   map[stage]int
}

func newCourse(from spot, alike int) *course {
	return &course{alike: alike, left: []turn{{end: end{spot: from}}}, met: map[stage]int{}}
}

// goOn goes on from now to a turn: the better ones are to be told first.
func (c *course) goOn(done int, e end) { c.left = append(c.left, turn{done, e}) }

// next takes the next turn; false: there is none any more.
func (c *course) next() bool {
	slices.Reverse(c.left[c.ahead:])
	for len(c.left) > 0 {
		c.ahead = len(c.left) - 1
		c.now = c.left[c.ahead]
		c.left = c.left[:c.ahead]
		if c.isNew() {
			return true
		}
	}
	return false
}

func (c *course) isNew() bool {
	at := stage{min(c.now.done, c.alike), c.now.spot}
	done, met := c.met[at]
	if met && done <= c.now.done {
		return false
	}
	c.met[at] = c.now.done
	return true
}
