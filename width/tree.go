package width

import "slices"

// maxBags is the greatest number of bags of a tree decomposition.
const maxBags = 30

// treeOf returns the tree decomposition of an order, which has the width of the order:
// a node's bag has it and its neighbours at its turn, which are together in the bag of
// the next one of them.
func (t town) treeOf(order []int) Tree {
	tree := Tree{}
	gone := 0
	for i, v := range order {
		left := t.left(v, gone)
		tree.Bags = append(tree.Bags, left|1<<v)
		tree.Parent = append(tree.Parent, nextOf(order, i, left))
		gone |= 1 << v
	}
	return tree
}

// nextOf returns the index of the first node of a set behind index i. A bag without
// neighbours may hang anywhere: the next index, or -1 if it is the last one.
func nextOf(order []int, i, set int) int {
	for j := i + 1; j < len(order); j++ {
		if has(set, order[j]) {
			return j
		}
	}
	if i == len(order)-1 {
		return -1
	}
	return i + 1
}

// widthOf returns the width of a tree decomposition.
func widthOf(tree Tree) int {
	most := 0
	for _, bag := range tree.Bags {
		most = max(most, count(bag))
	}
	return most - 1
}

// isTree reports whether the parents make one tree of at least 1 and at most maxBags
// bags.
func isTree(tree Tree) bool {
	n := len(tree.Bags)
	if n < 1 || n > maxBags || len(tree.Parent) != n {
		return false
	}
	roots := 0
	for _, p := range tree.Parent {
		if p < -1 || p >= n {
			return false
		}
		if p == -1 {
			roots++
		}
	}
	return roots == 1 && !hasCycle(tree.Parent)
}

// hasCycle reports whether some bag, from parent to parent, never comes to a root.
func hasCycle(parent []int) bool {
	for i := range parent {
		at := i
		for range parent {
			if at != -1 {
				at = parent[at]
			}
		}
		if at != -1 {
			return true
		}
	}
	return false
}

// isDecomposition reports whether a Tree, which may be any one, is a tree decomposition.
func (t town) isDecomposition(tree Tree) bool {
	if !isTree(tree) {
		return false
	}
	for _, bag := range tree.Bags {
		if !t.isSet(bag) {
			return false
		}
	}
	for v := range t {
		if tops(tree, v) != 1 || !isPart(t[v], together(tree, v)) {
			return false
		}
	}
	return true
}

// tops returns the number of connected pieces of a tree that the bags with node v make:
// each of them has one bag whose parent, if any, is without v.
func tops(tree Tree, v int) int {
	n := 0
	for i, bag := range tree.Bags {
		p := tree.Parent[i]
		if has(bag, v) && (p == -1 || !has(tree.Bags[p], v)) {
			n++
		}
	}
	return n
}

// together returns the set of nodes that are in some bag with node v.
func together(tree Tree, v int) int {
	set := 0
	for _, bag := range tree.Bags {
		if has(bag, v) {
			set |= bag
		}
	}
	return set
}

// narrowed merges bags until none is a part of another one, in the memory of its
// argument. A bag that is a part of any other one is a part of one beside it, since the
// bags between them have its nodes too; so only parents and children are compared.
func narrowed(tree Tree) Tree {
	for {
		i := mergeable(tree)
		if i == -1 {
			return tree
		}
		tree = merged(tree, i)
	}
}

// mergeable returns the index of a bag such that it or its parent is a part of the
// other, or -1 if there is none.
func mergeable(tree Tree) int {
	for i, p := range tree.Parent {
		if p != -1 && (isPart(tree.Bags[i], tree.Bags[p]) || isPart(tree.Bags[p], tree.Bags[i])) {
			return i
		}
	}
	return -1
}

// merged joins bag i to its parent, which keeps the greater one of the two.
func merged(tree Tree, i int) Tree {
	p := tree.Parent[i]
	tree.Bags[p] |= tree.Bags[i]
	for j, q := range tree.Parent {
		if q == i {
			tree.Parent[j] = p
		}
	}
	tree.Bags = slices.Delete(tree.Bags, i, i+1)
	tree.Parent = slices.Delete(tree.Parent, i, i+1)
	for j, q := range tree.Parent {
		if q > i {
			tree.Parent[j] = q - 1
		}
	}
	return tree
}
