package disk

// power of a disk: the steps that were done by it, and how many more it lasts for.
type power struct {
	done  int
	short bool // it lasts for left steps more, and no longer
	left  int
}

func (p *power) lastFor(n int) { p.short, p.left = true, n }

func (p *power) lastForEver() { p.short, p.left = false, 0 }

// spend it on n steps: how many of them, from the first on, are done.
func (p *power) spend(n int) int {
	if p.short {
		n = min(n, p.left)
		p.left -= n
	}
	p.done += n
	return n
}
