package hier

import (
	"slices"

	"keystone/api"
)

// rule is one that no class may break.
type rule struct {
	err    api.Errno
	broken func(c *class) bool
}

// rules are in the order of the document; each leans on those ahead of it: what is named is there, then, and ways upwards end.
func (s *shelf) rules() []rule {
	return []rule{
		{api.ErrSuper, s.stray},
		{api.ErrFace, s.mixed},
		{api.ErrCycle, s.circular},
		{api.ErrLong, s.tooLow},
		{api.ErrNone, s.dangling},
		{api.ErrOverride, s.overriding},
		{api.ErrMissing, s.owing},
	}
}

// heads are the names that stand right above a class.
func heads(c *class) []string { return append([]string{c.Super}, c.Faces...) }

func (s *shelf) lacks(name string) bool { return !s.has(name) }

func (s *shelf) noFace(name string) bool { return !s.byName[name].face() }

func (s *shelf) stray(c *class) bool { return slices.ContainsFunc(heads(c), s.lacks) }

func (s *shelf) mixed(c *class) bool {
	return s.byName[c.Super].face() || slices.ContainsFunc(c.Faces, s.noFace)
}

// circular asks of the class itself: one that only leads to a circle is not in it.
func (s *shelf) circular(c *class) bool {
	met := map[string]struct{}{top: {}}
	left := heads(c)
	for len(left) > 0 {
		name := left[len(left)-1]
		left = left[:len(left)-1]
		if name == c.Name {
			return true
		}
		if _, again := met[name]; !again {
			met[name] = struct{}{}
			left = append(left, heads(s.byName[name])...)
		}
	}
	return false
}

func (s *shelf) tooLow(c *class) bool { return len(s.chainOf(c)) > api.MaxChain }

func (s *shelf) dangling(c *class) bool {
	return slices.ContainsFunc(namedInClass(c), s.lacks) || slices.ContainsFunc(c.named, s.lacks)
}

func (s *shelf) overriding(c *class) bool {
	if c.face() {
		return false
	}
	above := s.chainOf(c)[1:]
	for h, place := range c.places {
		up, found := nearest(h, above...)
		if found && h.name != constructor && (up.static() || (spot{c, place}).static()) {
			return true
		}
	}
	return false
}

func (s *shelf) owing(c *class) bool {
	if c.Flags != 0 {
		return false
	}
	k := s.kinOf(c)
	for h := range k.owed() {
		if _, found := k.pick(h); !found {
			return true
		}
	}
	return false
}
