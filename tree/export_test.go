package tree

import "tenure/order"

// Faulty tells what is wrong with how a tree stands; nothing, if each node knows its height, neither side of it is higher than the other by more than one key, and the keys rise.
func (t *Tree) Faulty() string {
	var before *node
	keys := 0
	var look func(n *node) (int, string)
	look = func(n *node) (int, string) {
		if n == nil {
			return 0, ""
		}
		left, fault := look(n.links[ahead])
		if fault != "" {
			return 0, fault
		}
		if before != nil && order.Compare(before.key, n.key) >= 0 {
			return 0, "a key is not behind the one that stands ahead of it"
		}
		before = n
		keys++
		right, fault := look(n.links[behind])
		switch {
		case fault != "":
		case left-right < -1 || left-right > 1:
			fault = "a side is too high"
		case n.height != 1+max(left, right):
			fault = "a node has another height"
		}
		return 1 + max(left, right), fault
	}
	if _, fault := look(t.root); fault != "" {
		return fault
	}
	if keys != t.keys {
		return "there are more keys, or fewer, than are told"
	}
	return ""
}
