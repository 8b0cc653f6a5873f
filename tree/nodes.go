package tree

import (
	"bytes"
	"slices"
	"sort"
	"strings"

	"ledgerstone/api"
	"ledgerstone/names"
)

// nodes are those of a tree, by their Ids.
type nodes map[int]*api.Node

// look is the nodes of a tree, and whether it is right.
func look(t api.Tree) (nodes, bool) {
	all := nodes{}
	for i := range t.Nodes {
		all[t.Nodes[i].Id] = &t.Nodes[i]
	}
	wrong := func(n api.Node) bool { return !mayBe(n) }
	return all, rising(t) && !slices.ContainsFunc(t.Nodes, wrong) && all.named() && all.reached()
}

// rising is whether the Ids rise, from that of a root on, and stay below a Next that may be.
func rising(t api.Tree) bool {
	if len(t.Nodes) == 0 || t.Nodes[0].Id != root || t.Nodes[0].Kind != api.Directory {
		return false
	}
	last := 0
	for _, n := range t.Nodes {
		if n.Id <= last {
			return false
		}
		last = n.Id
	}
	return last < t.Next && t.Next <= maxNext
}

// mayBe is whether a node, looked at by itself, is a file or a directory.
func mayBe(n api.Node) bool {
	switch n.Kind {
	case api.File:
		return len(n.Entries) == 0 && len(n.Data) <= api.MaxFile && n.Links >= 1 && n.Links <= api.MaxLinks
	case api.Directory:
		return len(n.Data) == 0 && n.Links == 1 && len(n.Entries) <= api.MaxEntries && inOrder(n.Entries)
	}
	return false
}

// inOrder is whether entries bear names, and rise by them.
func inOrder(l []api.Entry) bool {
	last := "" // it is below each name
	for _, e := range l {
		if e.Name <= last || !names.Name(e.Name) {
			return false
		}
		last = e.Name
	}
	return true
}

// named is whether as many entries name a node as it has links, none names the root, and none what is no node.
func (all nodes) named() bool {
	count := map[int]int{root: 1} // the root has a link that is no entry's
	for _, n := range all {
		for _, e := range n.Entries {
			count[e.Id]++
		}
	}
	for id, n := range all {
		if count[id] != n.Links {
			return false
		}
	}
	return len(count) == len(all)
}

// reached is whether each node is reached from the root, where each one is named as often as it has links.
func (all nodes) reached() bool {
	left := 0 // directories that were not come upon; files are reached, if each of these is
	for _, n := range all {
		if n.Kind == api.Directory {
			left++
		}
	}
	// One entry at most names a directory, and none the root: there is no coming back.
	for line := []int{root}; len(line) > 0; line = line[1:] {
		left--
		for _, e := range all[line[0]].Entries {
			if all[e.Id].Kind == api.Directory {
				line = append(line, e.Id)
			}
		}
	}
	return left == 0
}

// where is the place that a name has among entries, or would have, and whether it is there.
func where(l []api.Entry, name string) (int, bool) {
	return sort.Find(len(l), func(at int) int { return strings.Compare(name, l[at].Name) })
}

// find is what names lead to from the root on.
func (all nodes) find(l []string) (*api.Node, api.Errno) {
	n := all[root]
	for _, name := range l {
		if n.Kind != api.Directory {
			return nil, api.ErrNotDir
		}
		if n = all.at(place{n, name}); n == nil {
			return nil, api.ErrMissing
		}
	}
	return n, api.OK
}

// place is a name in a directory, be it there or not.
type place struct {
	dir  *api.Node
	name string
}

// placeOf is the place of a path that has these names, one at least.
func (all nodes) placeOf(l []string) (place, api.Errno) {
	last := len(l) - 1
	dir, err := all.find(l[:last])
	switch {
	case err != api.OK:
		return place{}, err
	case dir.Kind != api.Directory:
		return place{}, api.ErrNotDir
	}
	return place{dir, l[last]}, api.OK
}

// at is what a name names; none, if it is not there.
func (all nodes) at(p place) *api.Node {
	at, there := where(p.dir.Entries, p.name)
	if !there {
		return nil
	}
	return all[p.dir.Entries[at].Id]
}

// full is whether the directory has no room for one more name.
func (p place) full() bool {
	return len(p.dir.Entries) == api.MaxEntries
}

// alike is whether the nodes of two right trees are the same but for their Ids.
func (all nodes) alike(others nodes) bool {
	// Each node has one partner. No two have the same one: as many names lead to that as to either of them, and so none is left for the other.
	partner := map[int]int{root: root}
	for line := []int{root}; len(line) > 0; line = line[1:] {
		a, b := all[line[0]], others[partner[line[0]]]
		if a.Kind != b.Kind || a.Links != b.Links || !bytes.Equal(a.Data, b.Data) || !slices.EqualFunc(a.Entries, b.Entries, sameName) {
			return false
		}
		for i, e := range a.Entries {
			id, met := partner[e.Id]
			if !met {
				id = b.Entries[i].Id
				partner[e.Id] = id
				line = append(line, e.Id)
			}
			if id != b.Entries[i].Id {
				return false
			}
		}
	}
	return true
}

// sameName is whether two entries have the same name.
func sameName(a, b api.Entry) bool {
	return a.Name == b.Name
}

// copied is a tree that shares no memory with t, which need not be right.
func copied(t api.Tree) api.Tree {
	t.Nodes = slices.Clone(t.Nodes)
	for i := range t.Nodes {
		n := &t.Nodes[i]
		n.Data, n.Entries = slices.Clone(n.Data), slices.Clone(n.Entries)
		for at := range n.Entries {
			n.Entries[at].Name = strings.Clone(n.Entries[at].Name)
		}
	}
	return t
}
