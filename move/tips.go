package move

import "catscradle/api"

func (b *board) tipRights(a int) []api.Move {
	l := b.Letters[a]
	if l.Kind != api.Pass || l.Gate == b.Fingers || l.Rank != b.counts[l.Gate] {
		return nil
	}
	return []api.Move{{Kind: api.TipRight, A: a}}
}

func (b *board) tipRight(m api.Move) []step {
	gate := b.Letters[m.A].Gate
	list := b.steps()
	shift(list, gate+1, 0, 1)
	list[m.A].Gate, list[m.A].Rank = gate+1, 1
	return list
}

func (b *board) tipLefts(a int) []api.Move {
	l := b.Letters[a]
	if l.Kind != api.Pass || l.Gate == 0 || l.Rank != 1 {
		return nil
	}
	return []api.Move{{Kind: api.TipLeft, A: a}}
}

func (b *board) tipLeft(m api.Move) []step {
	gate := b.Letters[m.A].Gate
	list := b.steps()
	shift(list, gate, 1, -1)
	list[m.A].Gate, list[m.A].Rank = gate-1, b.counts[gate-1]+1
	return list
}
