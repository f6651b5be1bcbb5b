package arena

import (
	"taffrail/api"
)

func (a *Arena) has(id int) bool { return id >= 0 && id < a.Len() }

// movable tells whether id is a node that may be a kid: the document stays where it is.
func (a *Arena) movable(id int) bool { return id != 0 && a.has(id) }

// holds tells whether a node is of a kind that may have kids.
func (a *Arena) holds(id int) bool {
	return a.nodes[id].Kind == api.NodeDocument || a.nodes[id].Kind == api.NodeElement
}

// wants tells what is wrong with a node that must be of a kind from least to most.
func (a *Arena) wants(id, least, most int) api.Errno {
	switch {
	case a == nil:
		return api.ErrArg
	case !a.has(id):
		return api.ErrNode
	case a.nodes[id].Kind < least || a.nodes[id].Kind > most:
		return api.ErrArg
	}
	return api.OK
}

// within tells whether node id is top, or stands below it.
func (a *Arena) within(id, top int) bool {
	if a.ends[top].first == 0 { // nearly all that is put in is new: then there is no need to go up
		return id == top
	}
	for id != top {
		if !a.spots[id].in {
			return false
		}
		id = a.spots[id].parent
	}
	return true
}

// add puts n, as one that stands nowhere, behind the last node.
func (a *Arena) add(n api.Node) int {
	n.Id = len(a.nodes)
	n.Attrs = copied(n.Attrs)
	n.Kids = nil
	a.nodes = append(a.nodes, n)
	a.spots = append(a.spots, spot{})
	a.ends = append(a.ends, ends{})
	return n.Id
}

func (a *Arena) link(parent, id, before int) {
	ahead, behind := a.ends[parent].last, 0
	if before != none {
		ahead, behind = a.spots[before].ahead, before
	}
	a.spots[id] = spot{in: true, parent: parent}
	a.join(parent, ahead, id)
	a.join(parent, id, behind)
}

func (a *Arena) unlink(id int) {
	old := a.spots[id]
	clear(a.spots[id : id+1])
	a.join(old.parent, old.ahead, old.behind)
}

// join makes two kids neighbours; beside 0 the other one is an end of the parent's kids.
func (a *Arena) join(parent, ahead, behind int) {
	if ahead != 0 {
		a.spots[ahead].behind = behind
	} else {
		a.ends[parent].first = behind
	}
	if behind != 0 {
		a.spots[behind].ahead = ahead
	} else {
		a.ends[parent].last = ahead
	}
}

// single gives a node as new memory, without its kids.
func (a *Arena) single(id int) api.Node {
	n := a.nodes[id]
	n.Attrs = copied(n.Attrs)
	return n
}

func copied(l []api.Attr) []api.Attr {
	if len(l) == 0 {
		return nil
	}
	out := make([]api.Attr, len(l))
	copy(out, l)
	return out
}
