package tree

import (
	"maps"
	"slices"
	"strings"

	"ledgerstone/api"
	"ledgerstone/names"
)

// work is an operation that is done in a tree.
type work struct {
	all      nodes
	next     int
	op       api.Op
	path, to []string  // the names of Path, and of To
	node     *api.Node // what Path names
	old, new place     // where a name goes, and where one comes
}

// begin is an operation in a tree that is its own; nothing is found yet.
func begin(t api.Tree, o api.Op) (*work, api.Errno) {
	all, right := look(t)
	if !right || o.Kind < api.OpCreate || o.Kind > api.OpStat {
		return nil, api.ErrArg
	}
	path, err := names.Split(o.Path)
	if err != api.OK {
		return nil, err
	}
	var to []string
	if o.Kind == api.OpLink || o.Kind == api.OpRename {
		to, err = names.Split(o.To)
	}
	return &work{all: all, next: t.Next, op: o, path: path, to: to}, err
}

// refused finds what the operation is about, and is the first error that holds; no node is changed.
func (w *work) refused() api.Errno {
	switch w.op.Kind {
	case api.OpCreate, api.OpMkdir:
		return w.makeRefused()
	case api.OpTruncate, api.OpRead, api.OpWrite:
		if w.op.At < 0 || w.op.Count < 0 {
			return api.ErrArg
		}
	}
	if err := w.find(); err != api.OK {
		return err
	}
	switch w.op.Kind {
	case api.OpLink:
		return w.linkRefused()
	case api.OpRmdir:
		return w.rmdirRefused()
	case api.OpRename:
		return w.renameRefused()
	case api.OpTruncate, api.OpWrite:
		return w.sizeRefused()
	}
	return api.OK
}

// find finds what Path names, and is an error, too, if that is a file or directory where the operation asks for the other one.
func (w *work) find() api.Errno {
	n, err := w.all.find(w.path)
	if err != api.OK {
		return err
	}
	switch w.op.Kind {
	case api.OpLink, api.OpUnlink, api.OpTruncate, api.OpRead, api.OpWrite:
		if n.Kind == api.Directory {
			return api.ErrIsDir
		}
	case api.OpRmdir, api.OpList:
		if n.Kind == api.File {
			return api.ErrNotDir
		}
	}
	w.node = n
	if len(w.path) > 0 {
		w.old, err = w.all.placeOf(w.path)
	}
	return err
}

// findNew finds the place where a name comes that is not there yet.
func (w *work) findNew(l []string) api.Errno {
	if len(l) == 0 {
		return api.ErrThere
	}
	p, err := w.all.placeOf(l)
	switch {
	case err != api.OK:
		return err
	case w.all.at(p) != nil:
		return api.ErrThere
	}
	w.new = p
	return api.OK
}

// makeRefused is the first error of a Create or Mkdir.
func (w *work) makeRefused() api.Errno {
	if err := w.findNew(w.path); err != api.OK {
		return err
	}
	if w.new.full() || w.next == maxNext {
		return api.ErrFull
	}
	return api.OK
}

// linkRefused is the first error of a Link whose file is found.
func (w *work) linkRefused() api.Errno {
	err := w.findNew(w.to)
	switch {
	case err != api.OK:
		return err
	case w.node.Links == api.MaxLinks:
		return api.ErrLinks
	case w.new.full():
		return api.ErrFull
	}
	return api.OK
}

// rmdirRefused is the first error of a Rmdir whose directory is found.
func (w *work) rmdirRefused() api.Errno {
	switch {
	case len(w.path) == 0:
		return api.ErrArg
	case len(w.node.Entries) > 0:
		return api.ErrUsed
	}
	return api.OK
}

// renameRefused is the first error of a Rename whose Path is found.
func (w *work) renameRefused() api.Errno {
	if len(w.path) == 0 || len(w.to) == 0 {
		return api.ErrArg
	}
	var err api.Errno
	if w.new, err = w.all.placeOf(w.to); err != api.OK {
		return err
	}
	there := w.all.at(w.new)
	switch {
	case len(w.to) > len(w.path) && names.Within(w.op.To, w.op.Path): // there is no place below a file: it is a directory
		return api.ErrLoop
	case there == w.node:
		return api.OK
	case there == nil:
		if w.new.full() && w.new.dir != w.old.dir {
			return api.ErrFull
		}
	case w.node.Kind == api.Directory && there.Kind == api.File:
		return api.ErrNotDir
	case w.node.Kind == api.File && there.Kind == api.Directory:
		return api.ErrIsDir
	case len(there.Entries) > 0:
		return api.ErrUsed
	}
	return api.OK
}

// sizeRefused is the error of a Truncate or Write whose file is found, if it would be too great.
func (w *work) sizeRefused() api.Errno {
	end := w.op.Count
	if w.op.Kind == api.OpWrite {
		// Whatever is behind MaxFile is refused: there At is not added to, for that might wrap round.
		end = min(w.op.At, api.MaxFile+1) + len(w.op.Data)
	}
	if end > api.MaxFile {
		return api.ErrSize
	}
	return api.OK
}

// do does what nothing stands against any more, and is what that tells.
func (w *work) do() api.Result {
	n, o := w.node, w.op
	switch o.Kind {
	case api.OpCreate, api.OpMkdir:
		n = w.made()
		fallthrough // it is there, and gets its name
	case api.OpLink:
		w.give(w.new, n)
	case api.OpRename:
		if w.all.at(w.new) == n {
			break
		}
		w.take(w.new)
		w.give(w.new, n)
		fallthrough // it has its new name, and loses the old one
	case api.OpUnlink, api.OpRmdir:
		w.take(w.old)
	case api.OpTruncate:
		n.Data = sized(n.Data, o.Count)
	case api.OpRead:
		return api.Result{Data: part(n.Data, o.At, o.Count)}
	case api.OpWrite:
		n.Data = written(n.Data, o.At, o.Data)
		return api.Result{Count: len(o.Data)}
	case api.OpList:
		return api.Result{Names: namesOf(n.Entries)}
	case api.OpStat:
		return api.Result{Kind: n.Kind, Links: n.Links, Size: len(n.Data) + len(n.Entries)}
	}
	return api.Result{}
}

// made is a new node, which has no name yet.
func (w *work) made() *api.Node {
	n := &api.Node{Id: w.next, Kind: api.File}
	if w.op.Kind == api.OpMkdir {
		n.Kind = api.Directory
	}
	w.all[n.Id] = n
	w.next++
	return n
}

// give puts a name that is not there to its place.
func (w *work) give(p place, n *api.Node) {
	at, _ := where(p.dir.Entries, p.name)
	p.dir.Entries = slices.Insert(p.dir.Entries, at, api.Entry{Name: p.name, Id: n.Id})
	n.Links++
}

// take takes a name away, if it is there; the node that had it is gone with its last one.
func (w *work) take(p place) {
	n := w.all.at(p)
	if n == nil {
		return
	}
	at, _ := where(p.dir.Entries, p.name)
	p.dir.Entries = slices.Delete(p.dir.Entries, at, at+1)
	n.Links--
	if n.Links == 0 {
		delete(w.all, n.Id)
	}
}

// told is the tree as it is now.
func (w *work) told() api.Tree {
	t := api.Tree{Next: w.next}
	for _, id := range slices.Sorted(maps.Keys(w.all)) {
		t.Nodes = append(t.Nodes, *w.all[id])
	}
	return t
}

// sized is n bytes: the first ones of data, and noughts behind.
func sized(data []byte, n int) []byte {
	out := make([]byte, n)
	copy(out, data)
	return out
}

// part is the bytes of data from at on, count of them at most.
func part(data []byte, at, count int) []byte {
	rest := data[min(at, len(data)):]
	return slices.Clone(rest[:min(count, len(rest))])
}

// written is data with these bytes from at on.
func written(data []byte, at int, b []byte) []byte {
	if len(b) == 0 {
		return data
	}
	out := sized(data, max(len(data), at+len(b)))
	copy(out[at:], b)
	return out
}

// namesOf is the names of entries, in memory of their own.
func namesOf(l []api.Entry) []string {
	var out []string
	for _, e := range l {
		out = append(out, strings.Clone(e.Name))
	}
	return out
}
