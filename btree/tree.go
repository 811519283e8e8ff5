package btree

import "slices"

// crown makes the top of a tree of these parts, which are as high as each other, and answers it: nil of none, and one part is a top by itself.
func crown(parts []*knot) *knot {
	switch len(parts) {
	case 0:
		return nil
	case 1:
		parts[0].up = nil
		return parts[0]
	}
	return over(parts)
}

// join puts tree b behind tree a, either of which may be nil, and answers the top.
func join(a, b *knot) *knot {
	if a == nil {
		return b
	}
	if b == nil {
		return a
	}
	return crown(blend(a, b))
}

// blend puts tree b behind tree a, and answers what they become: one knot, or two, as high as the higher one of them was.
// It goes down the near side of the higher one, as many steps as their heights differ. Behind the first step that one is always a part, so that what
// comes out has enough parts to be one too.
func blend(a, b *knot) []*knot {
	switch {
	case a.height > b.height:
		a.settle()
		last := len(a.parts) - 1
		return a.share(slices.Concat(a.parts[:last], blend(a.parts[last], b)))
	case a.height < b.height:
		b.settle()
		return b.share(slices.Concat(blend(a, b.parts[0]), b.parts[1:]))
	case a.height == 0 || min(len(a.parts), len(b.parts)) >= leastParts:
		return []*knot{a, b}
	}
	a.settle()
	b.settle()
	return a.share(slices.Concat(a.parts, b.parts))
}

// share makes these the parts of k, at which nothing waits; if they are too many for one knot, half of them become those of a new one behind it.
func (k *knot) share(parts []*knot) []*knot {
	if len(parts) <= mostParts {
		k.hold(parts)
		return []*knot{k}
	}
	half := len(parts) / 2
	k.hold(slices.Clone(parts[:half]))
	return []*knot{k, over(slices.Clone(parts[half:]))}
}

// cut parts the tree of an item into what is ahead of it and what begins with it: on the item's way up, the parts on either side of it are put to their
// pieces.
func cut(item *knot) {
	item.settleAbove()
	below, up := item, item.up
	item.up = nil
	var ahead *knot
	behind := item
	for up != nil {
		i := slices.Index(up.parts, below)
		ahead = join(crown(slices.Clone(up.parts[:i])), ahead)
		behind = join(behind, crown(slices.Clone(up.parts[i+1:])))
		// Neither piece has up itself in it, so it still knows what it was below.
		below, up = up, up.up
	}
}
