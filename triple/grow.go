package triple

// grower lists blocks of which no two have two points together.
type grower struct {
	lister
	points   int
	together [mostGrown][mostGrown]bool
}

// lay adds a block; false, if two of its points lie together already.
func (g *grower) lay(x, y, z int) bool {
	if g.together[x][y] || g.together[x][z] || g.together[y][z] {
		return false
	}
	g.add(x, y, z)
	g.mark(x, y, z, true)
	return true
}

// lift takes back the block that was laid last.
func (g *grower) lift() {
	b := g.drop()
	g.mark(b[0], b[1], b[2], false)
}

// mark is for points that rise: the lesser one of two is asked for first, always.
func (g *grower) mark(x, y, z int, now bool) {
	g.together[x][y], g.together[x][z], g.together[y][z] = now, now, now
}

// fill adds blocks until each two points lie together; false, if it cannot be. The first two that are apart yet have their third point behind them, or it would be one of an earlier two: so blocks come in order, and the first way that goes on to the end is the first system.
func (g *grower) fill() bool {
	x, y, apart := g.firstApart()
	if !apart {
		return true
	}
	for z := y + 1; z < g.points; z++ {
		if !g.lay(x, y, z) {
			continue
		}
		if g.fill() {
			return true
		}
		g.lift()
	}
	return false
}

// firstApart finds the first two points, in order, that do not lie together yet; false, if there are none.
func (g *grower) firstApart() (int, int, bool) {
	for x := range g.points {
		for y := x + 1; y < g.points; y++ {
			if !g.together[x][y] {
				return x, y, true
			}
		}
	}
	return 0, 0, false
}
