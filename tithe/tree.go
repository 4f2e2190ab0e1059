package tithe

// tree is what a report is made of, and the proofs by it.
type tree struct {
	leaves []leaf   // by their places
	levels [][]side // the lowest one first, the root's last
}

// grow needs at most 2^height leaves, whose sums together don't go round.
func grow(leaves []leaf, height int) *tree {
	level := lowestLevel(leaves, 1<<height)
	levels := [][]side{level}
	for range height {
		level = levelAbove(level)
		levels = append(levels, level)
	}
	return &tree{leaves: leaves, levels: levels}
}

func lowestLevel(leaves []leaf, places int) []side {
	level := make([]side, places)
	for place := range level {
		if place < len(leaves) {
			level[place] = leafSide(leaves[place])
		} else {
			level[place] = padSide(place)
		}
	}
	return level
}

func levelAbove(level []side) []side {
	above := make([]side, len(level)/2)
	for place := range above {
		above[place] = nodeSide(level[2*place], level[2*place+1])
	}
	return above
}

func (t *tree) report() report {
	height := len(t.levels) - 1
	return report{height: height, root: t.levels[height][0]}
}

// proof answers false if no leaf has the name.
func (t *tree) proof(name string) (proof, bool) {
	for place, l := range t.leaves {
		if l.name == name {
			return proof{place: place, leaf: l, beside: t.beside(place)}, true
		}
	}
	return proof{}, false
}

// beside is what stands beside the way up from a place.
func (t *tree) beside(place int) []side {
	height := len(t.levels) - 1
	sides := make([]side, height)
	for i := range sides {
		sides[i] = t.levels[i][place^1]
		place /= 2
	}
	return sides
}

// saltOf is a splitmix.
func saltOf(seed uint64, place int) uint64 {
	s := seed + 11400714819323198485*uint64(place+1)
	s = (s ^ s>>30) * 13787848793156543929
	s = (s ^ s>>27) * 10723151780598845931
	return s ^ s>>31
}
