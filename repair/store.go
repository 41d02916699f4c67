package repair

import "strings"

// termBytes is how many bytes a terminal takes in a text.
const termBytes = 2

// textOf: the high byte goes first: so of as many terminals those are first in order whose text is.
func textOf(terms ...int) string {
	var out []byte
	for _, t := range terms {
		out = append(out, byte(t>>8), byte(t))
	}
	return string(out)
}

func termsOf(text string) []int {
	var out []int
	for i := 0; i < len(text); i += termBytes {
		out = append(out, int(text[i])<<8|int(text[i+1]))
	}
	return out
}

// firstOf gives the first in order of two texts of one length: the second is head and tail, and is put together only if it is taken. An empty one is none.
func firstOf(best, head, tail string) string {
	if head == "" {
		return best
	}
	if best != "" {
		c := strings.Compare(head, best[:len(head)])
		if c > 0 || c == 0 && tail >= best[len(head):] {
			return best
		}
	}
	return head + tail
}

// store keeps each text but once, by its number: very many things have the same one. Number 0 is that of none.
type store struct {
	texts   []string
	numbers map[string]int32
}

func newStore() *store {
	return &store{texts: make([]string, 1), numbers: map[string]int32{}}
}

func (s *store) number(text string) int32 {
	number, is := s.numbers[text]
	if !is {
		number = int32(len(s.texts))
		s.numbers[text] = number
		s.texts = append(s.texts, text)
	}
	return number
}

// memory is the numbers of the texts that were found of things, by two places; 0: not yet.
type memory struct {
	spots   int // how many numbers two places can have
	numbers [][]int32
}

func newMemory(things, spots int) *memory {
	return &memory{spots: spots, numbers: make([][]int32, things)}
}

func (m *memory) at(thing, spot int) *int32 {
	if m.numbers[thing] == nil {
		m.numbers[thing] = make([]int32, m.spots)
	}
	return &m.numbers[thing][spot]
}
