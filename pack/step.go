package pack

// Step makes the function that tells NEXT of a state, which must be there, and a byte.
//
// There is a cell for each offset and class together, so it looks there without asking. Where a byte has no class, that cell is never the state's own: its own lie behind its offset.
func (p *Table) Step() func(state int, b byte) int {
	return func(state int, b byte) int {
		class := p.class[b]
		if c := p.Cells[p.Offsets[state]+class]; c.State == state {
			return c.Next
		}
		return p.first[class]
	}
}
