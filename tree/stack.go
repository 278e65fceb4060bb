package tree

// opened is an open element; or the document, which has neither a name nor a kind.
type opened struct {
	node int
	name string
	kind uint8
}

func isWall(o opened) bool {
	return o.kind == heading || o.kind == block && o.name != "div"
}

func noWall(opened) bool { return false }

// stack holds what is open, the document at its bottom, which is never closed.
type stack []opened

func newStack() stack { return stack{opened{}} }

func (s stack) top() opened { return s[len(s)-1] }

// depth tells how many elements are open.
func (s stack) depth() int { return len(s) - 1 }

func (s *stack) push(o opened) { *s = append(*s, o) }

func (s *stack) close() { *s = (*s)[:len(*s)-1] }

// has: is an element of this kind open? Below the first one that walls off it is not looked for.
func (s stack) has(kind uint8, wallsOff func(opened) bool) bool {
	found := false
down:
	for i := s.depth(); i > 0; i-- {
		switch {
		case s[i].kind == kind:
			found = true
			break down
		case wallsOff(s[i]):
			break down
		}
	}
	return found
}

// admits: may an element of this kind stand in the top?
func (s stack) admits(kind uint8) bool {
	switch {
	case endsParagraph(kind) && s.has(paragraph, noWall),
		kind == item && s.has(item, isWall),
		kind == heading && s.top().kind == heading,
		kind == anchor && s.has(anchor, noWall):
		return false
	}
	return true
}

// closeForStart closes what the start tag of an element of this kind ends, if it stands at the top. What it would have to end below that stays open, and the stack does not admit the element then.
func (s *stack) closeForStart(kind uint8) {
	if endsParagraph(kind) && s.top().kind == paragraph {
		s.close()
	}
	if kind == item && s.top().kind == item {
		s.close()
	}
}

// closeForEnd closes what an end tag ends; false, if the element itself is not at the top then.
func (s *stack) closeForEnd(name string) bool {
	kind := Kind(name)
	for endsToo(kind, s.top().kind) {
		s.close()
	}
	if s.top().name != name {
		return false
	}
	s.close()
	return true
}

// closeTo closes all that stands above a node; false, if that is not open.
func (s *stack) closeTo(node int) bool {
	for s.top().node != node {
		if s.depth() == 0 {
			return false
		}
		s.close()
	}
	return true
}
