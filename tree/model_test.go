package tree_test

import (
	"maps"
	"slices"
	"strings"

	"ledgerstone/api"
	"ledgerstone/names"
)

// The model keeps no entries: a thing stands in a map at each of its paths, and all else is read off these.

// thing is a file or a directory.
type thing struct {
	id    int
	isDir bool
	data  []byte
}

// model is things by their paths, and the next Id.
type model struct {
	at   map[string]*thing
	next int
}

// modelRight is whether t is right, sentence by sentence.
func modelRight(t api.Tree) bool {
	if len(t.Nodes) == 0 || t.Nodes[0].Id != 1 || t.Nodes[0].Kind != 2 || t.Next > 1073741824 {
		return false
	}
	for i, n := range t.Nodes {
		if n.Id >= t.Next || i > 0 && n.Id <= t.Nodes[i-1].Id {
			return false
		}
		isDir := n.Kind == 2 && n.Links == 1 && len(n.Data) == 0 && len(n.Entries) <= 128
		isFile := n.Kind == 1 && n.Links >= 1 && n.Links <= 100 && len(n.Data) <= 131072 && len(n.Entries) == 0
		if !isDir && !isFile || !modelNamed(t, n) {
			return false
		}
		for k, e := range n.Entries {
			if !names.Name(e.Name) || k > 0 && e.Name <= n.Entries[k-1].Name || e.Id == 1 || !slices.ContainsFunc(t.Nodes, func(m api.Node) bool { return m.Id == e.Id }) {
				return false
			}
		}
	}
	return modelReached(t)
}

// modelNamed is whether a node, if it isn't the root, has as many entries as links.
func modelNamed(t api.Tree, n api.Node) bool {
	found := 0
	for _, other := range t.Nodes {
		for _, e := range other.Entries {
			if e.Id == n.Id {
				found++
			}
		}
	}
	return n.Id == 1 || found == n.Links
}

// modelReached is whether each node is reached: what is reached grows till it grows no more.
func modelReached(t api.Tree) bool {
	reached := map[int]bool{1: true}
	for before := 0; before != len(reached); {
		before = len(reached)
		for _, n := range t.Nodes {
			for _, e := range n.Entries {
				if reached[n.Id] {
					reached[e.Id] = true
				}
			}
		}
	}
	return len(reached) == len(t.Nodes)
}

// modelOf is a right tree as paths.
func modelOf(t api.Tree) *model {
	m := &model{at: map[string]*thing{}, next: t.Next}
	things := map[int]*thing{}
	entries := map[int][]api.Entry{}
	for _, n := range t.Nodes {
		things[n.Id], entries[n.Id] = &thing{n.Id, n.Kind == 2, slices.Clone(n.Data)}, n.Entries
	}
	var put func(path string, id int)
	put = func(path string, id int) {
		m.at[path] = things[id]
		for _, e := range entries[id] {
			put(below(path, e.Name), e.Id)
		}
	}
	put("/", 1)
	return m
}

// below is the path of a name in a directory.
func below(dir, name string) string {
	if dir == "/" {
		return "/" + name
	}
	return dir + "/" + name
}

// above is the path of the directory that a path's last name is in, and that name.
func above(path string) (string, string) {
	cut := strings.LastIndex(path, "/")
	return max(path[:cut], "/"), path[cut+1:]
}

// inside is the names in a directory, rising.
func (m *model) inside(dir string) []string {
	var out []string
	for path := range m.at {
		if up, name := above(path); path != "/" && up == dir {
			out = append(out, name)
		}
	}
	slices.Sort(out)
	return out
}

// links is at how many paths a thing stands.
func (m *model) links(x *thing) int {
	found := 0
	for _, other := range m.at {
		if other == x {
			found++
		}
	}
	return found
}

// paths is all paths, rising.
func (m *model) paths() []string {
	return slices.Sorted(maps.Keys(m.at))
}

// tree is the paths as a tree again.
func (m *model) tree() api.Tree {
	nodes := map[int]api.Node{}
	for path, x := range m.at {
		n := api.Node{Id: x.id, Kind: 1, Links: m.links(x), Data: x.data}
		if x.isDir {
			n.Kind = 2
			for _, name := range m.inside(path) {
				n.Entries = append(n.Entries, api.Entry{Name: name, Id: m.at[below(path, name)].id})
			}
		}
		nodes[x.id] = n
	}
	t := api.Tree{Next: m.next}
	for _, id := range slices.Sorted(maps.Keys(nodes)) {
		t.Nodes = append(t.Nodes, nodes[id])
	}
	return t
}

// missing is the error of finding a path; OK, if it is there.
func (m *model) missing(path string) api.Errno {
	if path == "/" {
		return 0
	}
	dir, _ := above(path)
	switch err := m.noPlace(path); {
	case err != 0:
		return err
	case m.at[path] == nil && m.at[dir].isDir:
		return 212
	}
	return 0
}

// noPlace is the error of finding the directory that a path's last name is in.
func (m *model) noPlace(path string) api.Errno {
	dir, _ := above(path)
	switch err := m.missing(dir); {
	case err != 0:
		return err
	case !m.at[dir].isDir:
		return 213
	}
	return 0
}

// modelFind is what Find is to tell.
func modelFind(t api.Tree, path string) (int, api.Errno) {
	if !modelRight(t) {
		return 0, 2
	}
	if _, err := names.Split(path); err != 0 {
		return 0, err
	}
	m := modelOf(t)
	if err := m.missing(path); err != 0 {
		return 0, err
	}
	return m.at[path].id, 0
}

// modelApply is what Apply is to tell.
func modelApply(t api.Tree, o api.Op) (api.Tree, api.Result) {
	err := api.Errno(0)
	if !modelRight(t) || o.Kind == 0 || o.Kind > 11 {
		err = 2
	}
	if err == 0 {
		_, err = names.Split(o.Path)
	}
	if err == 0 && (o.Kind == 3 || o.Kind == 6) {
		_, err = names.Split(o.To)
	}
	if err != 0 {
		return t, api.Result{Err: err}
	}
	m := modelOf(t)
	r := m.do(o)
	if r.Err != 0 {
		return t, api.Result{Err: r.Err}
	}
	return m.tree(), r
}

// do is an operation whose paths are paths.
func (m *model) do(o api.Op) api.Result {
	switch {
	case o.Kind <= 2:
		return api.Result{Err: m.create(o.Path, o.Kind == 2)}
	case o.Kind >= 7 && o.Kind <= 9 && (o.At < 0 || o.Count < 0):
		return api.Result{Err: 2}
	}
	if err := m.missing(o.Path); err != 0 {
		return api.Result{Err: err}
	}
	x := m.at[o.Path]
	switch o.Kind {
	case 3:
		return api.Result{Err: m.link(x, o.To)}
	case 4:
		if x.isDir {
			return api.Result{Err: 214}
		}
		delete(m.at, o.Path)
	case 5:
		return api.Result{Err: m.rmdir(x, o.Path)}
	case 6:
		return api.Result{Err: m.rename(x, o.Path, o.To)}
	case 10:
		if !x.isDir {
			return api.Result{Err: 213}
		}
		return api.Result{Names: m.inside(o.Path)}
	case 11:
		if x.isDir {
			return api.Result{Kind: 2, Links: 1, Size: len(m.inside(o.Path))}
		}
		return api.Result{Kind: 1, Links: m.links(x), Size: len(x.data)}
	default:
		return x.bytes(o)
	}
	return api.Result{}
}

// create makes a file or directory.
func (m *model) create(path string, isDir bool) api.Errno {
	if path == "/" {
		return 215
	}
	if err := m.noPlace(path); err != 0 {
		return err
	}
	dir, _ := above(path)
	switch {
	case m.at[path] != nil:
		return 215
	case len(m.inside(dir)) >= 128 || m.next >= 1073741824:
		return 5
	}
	m.at[path] = &thing{id: m.next, isDir: isDir}
	m.next++
	return 0
}

// link gives a file one more path.
func (m *model) link(x *thing, to string) api.Errno {
	switch {
	case x.isDir:
		return 214
	case to == "/":
		return 215
	}
	if err := m.noPlace(to); err != 0 {
		return err
	}
	dir, _ := above(to)
	switch {
	case m.at[to] != nil:
		return 215
	case m.links(x) >= 100:
		return 218
	case len(m.inside(dir)) >= 128:
		return 5
	}
	m.at[to] = x
	return 0
}

// rmdir lets a directory go.
func (m *model) rmdir(x *thing, path string) api.Errno {
	switch {
	case !x.isDir:
		return 213
	case path == "/":
		return 2
	case len(m.inside(path)) != 0:
		return 216
	}
	delete(m.at, path)
	return 0
}

// rename moves a path, and all below it.
func (m *model) rename(x *thing, path, to string) api.Errno {
	if path == "/" || to == "/" {
		return 2
	}
	if err := m.noPlace(to); err != 0 {
		return err
	}
	dir, _ := above(to)
	old, _ := above(path)
	y := m.at[to]
	switch {
	case x.isDir && strings.HasPrefix(to, path+"/"):
		return 217
	case y == x:
		return 0
	case y != nil && x.isDir && !y.isDir:
		return 213
	case y != nil && y.isDir && !x.isDir:
		return 214
	case y != nil && y.isDir && len(m.inside(to)) != 0:
		return 216
	case y == nil && len(m.inside(dir)) >= 128 && dir != old:
		return 5
	}
	moved := map[string]*thing{}
	for at, z := range m.at {
		if at == path || strings.HasPrefix(at, path+"/") {
			moved[to+at[len(path):]] = z
			delete(m.at, at)
		}
	}
	maps.Copy(m.at, moved)
	return 0
}

// bytes is what is done with a file's bytes, one by one.
func (x *thing) bytes(o api.Op) api.Result {
	switch {
	case x.isDir:
		return api.Result{Err: 214}
	case o.Kind == 7 && o.Count > 131072, o.Kind == 9 && (o.At > 131072 || o.At+len(o.Data) > 131072):
		return api.Result{Err: 219}
	}
	var r api.Result
	switch o.Kind {
	case 7:
		for len(x.data) < o.Count {
			x.data = append(x.data, 0)
		}
		x.data = x.data[:o.Count]
	case 8:
		for at, b := range x.data {
			if at >= o.At && len(r.Data) < o.Count {
				r.Data = append(r.Data, b)
			}
		}
	case 9:
		for i, b := range o.Data {
			for len(x.data) <= o.At+i {
				x.data = append(x.data, 0)
			}
			x.data[o.At+i] = b
			r.Count++
		}
	}
	return r
}

// modelSame is whether two trees are the same but for their Ids.
func modelSame(a, b api.Tree) bool {
	if !modelRight(a) || !modelRight(b) {
		return false
	}
	one, other := modelOf(a), modelOf(b)
	l := one.paths()
	if !slices.Equal(l, other.paths()) {
		return false
	}
	for _, p := range l {
		x, y := one.at[p], other.at[p]
		if x.isDir != y.isDir || string(x.data) != string(y.data) || one.links(x) != other.links(y) {
			return false
		}
		for _, q := range l {
			if (one.at[q] == x) != (other.at[q] == y) {
				return false
			}
		}
	}
	return true
}

// modelPaths is what Paths is to tell.
func modelPaths(t api.Tree) []string {
	if !modelRight(t) {
		return nil
	}
	return modelOf(t).paths()
}
