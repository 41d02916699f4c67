package repair

import (
	"slices"
	"testing"
)

// 'Ways': the first goes first, as the function says, however things were put in and taken out.
func TestHeap(t *testing.T) {
	for name, ahead := range map[string]func(a, b int) bool{
		"less":    func(a, b int) bool { return a < b },
		"greater": func(a, b int) bool { return a > b },
		"equal":   func(a, b int) bool { return false },
	} {
		h := heap[int]{ahead: ahead}
		var left []int
		seed := uint32(1)
		for range 3000 {
			seed = seed*1664525 + 1013904223
			if x := int(seed >> 8 % 50); seed>>28 > 6 || h.isEmpty() {
				h.push(x)
				left = append(left, x)
				continue
			}
			x := h.pop()
			at := slices.Index(left, x)
			if at < 0 || slices.ContainsFunc(left, func(other int) bool { return ahead(other, x) }) {
				t.Fatalf("%s: %d of %v", name, x, left)
			}
			left = slices.Delete(left, at, at+1)
		}
		for !h.isEmpty() {
			x := h.pop()
			at := slices.Index(left, x)
			if at < 0 || slices.ContainsFunc(left, func(other int) bool { return ahead(other, x) }) {
				t.Fatalf("%s: %d of %v, at the end", name, x, left)
			}
			left = slices.Delete(left, at, at+1)
		}
		if len(left) != 0 {
			t.Errorf("%s: %v are left", name, left)
		}
	}
}
