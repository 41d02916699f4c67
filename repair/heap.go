package repair

// heap gives the first of what it has; ahead says which of two goes first. Each item stands ahead of the two at the doubled number.
type heap[T any] struct {
	ahead func(a, b T) bool
	items []T
}

func (h *heap[T]) isEmpty() bool {
	return len(h.items) == 0
}

func (h *heap[T]) push(x T) {
	h.items = append(h.items, x)
	for at := len(h.items) - 1; at > 0; {
		above := (at - 1) / 2
		if !h.ahead(h.items[at], h.items[above]) {
			return
		}
		h.swap(at, above)
		at = above
	}
}

// pop takes out the first; there must be one.
func (h *heap[T]) pop() T {
	first, last := h.items[0], len(h.items)-1
	h.swap(0, last)
	h.items = h.items[:last]
	for at := 0; ; {
		next := h.firstOf(at)
		if next == at {
			return first
		}
		h.swap(at, next)
		at = next
	}
}

// firstOf gives which of an item and the two below it goes first.
func (h *heap[T]) firstOf(at int) int {
	best := at
	for below := 2*at + 1; below <= 2*at+2 && below < len(h.items); below++ {
		if h.ahead(h.items[below], h.items[best]) {
			best = below
		}
	}
	return best
}

func (h *heap[T]) swap(a, b int) {
	h.items[a], h.items[b] = h.items[b], h.items[a]
}
