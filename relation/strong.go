package relation

import (
	"maps"

	"countwheel/api"
)

// search goes along pairs, and finds groups by what each id can reach. An id is met once, and left when all that it leads to was met.
type search struct {
	to    map[int][]int // where pairs lead to from each id
	rest  map[int][]int // what of that wasn't tried yet
	met   map[int]int   // when each id was met: the first at 1, the next one at 2, and so on
	reach map[int]int   // the earliest such time of an open id that each id can reach
	open  []int         // the ids that were met and have no group yet, in order
	group map[int]int   // each id's, told by the one of the group that was met first
}

// start is a search in which no id was met.
func start(l []api.Pair) *search {
	to := links(l)
	return &search{to: to, rest: maps.Clone(to), met: map[int]int{}, reach: map[int]int{}, group: map[int]int{}}
}

// groupOf is an id's group.
func (s *search) groupOf(id int) int {
	if s.met[id] == 0 {
		s.goFrom(id)
	}
	return s.group[id]
}

// goFrom meets all that an id can reach. It goes in steps, not by calling itself: rows of pairs may be long.
func (s *search) goFrom(id int) {
	s.meet(id)
	for row := []int{id}; len(row) > 0; {
		last := row[len(row)-1]
		if next, ok := s.next(last); ok {
			s.meet(next)
			row = append(row, next)
			continue
		}
		s.leave(last)
		row = row[:len(row)-1]
	}
}

// meet opens an id.
func (s *search) meet(id int) {
	n := len(s.met) + 1
	s.met[id] = n
	s.reach[id] = n
	s.open = append(s.open, id)
}

// next is one that wasn't met to which a pair leads from an id. No pair is tried twice.
func (s *search) next(id int) (int, bool) {
	for i, to := range s.rest[id] {
		if s.met[to] == 0 {
			s.rest[id] = s.rest[id][i+1:]
			return to, true
		}
	}
	return 0, false
}

// leave tells what an id can reach; one that reaches none that is open and was met ahead of it is the first of a group.
func (s *search) leave(id int) {
	for _, to := range s.to[id] {
		if _, told := s.group[to]; !told {
			s.reach[id] = min(s.reach[id], s.reach[to])
		}
	}
	if s.reach[id] == s.met[id] {
		s.shut(id)
	}
}

// shut makes a group of all that are open from its first one on.
func (s *search) shut(first int) {
	for {
		last := len(s.open) - 1
		id := s.open[last]
		s.open = s.open[:last]
		s.group[id] = first
		if id == first {
			return
		}
	}
}

// Strong is ids in groups that lead to one another.
func Strong(l []api.Pair, ids []int) [][]int {
	s := start(l)
	var groups [][]int
	place := map[int]int{}
	for _, id := range rising(ids) {
		g := s.groupOf(id)
		at, ok := place[g]
		if !ok {
			at = len(groups)
			place[g] = at
			groups = append(groups, nil)
		}
		groups[at] = append(groups[at], id)
	}
	return groups
}
