package super

import (
	"ledgerstone/api"
	"ledgerstone/octets"
	"ledgerstone/sums"
)

// How many bytes an inode has, and how many of them its sum is of.
const (
	inodeSize   = 64
	inodeSummed = 60
)

// Where parts of an inode lie.
const (
	linksAt   = 2
	sizeAt    = 4
	directAt  = 8
	pointerAt = directAt + api.MaxDirect*extentSize // Node
)

// PutInode is the bytes of n.
func PutInode(n api.Inode) ([]byte, api.Errno) {
	switch {
	case isUnused(n):
		return make([]byte, inodeSize), api.OK
	case !rightUsed(n):
		return nil, api.ErrArg
	}
	b := padded(inodeHead(n), inodeSummed)
	return octets.Add32(b, sums.Crc(b)), api.OK
}

// GetInode is the inode whose bytes are b.
func GetInode(b []byte) (api.Inode, api.Errno) {
	if len(b) != inodeSize {
		return api.Inode{}, api.ErrForm
	}
	if isThenNoughts(b, nil) {
		return api.Inode{}, api.OK
	}
	n := readInode(b)
	sum, _ := octets.U32(b, inodeSummed)
	summed := b[:inodeSummed]
	if !rightUsed(n) || !isThenNoughts(summed, inodeHead(n)) || sum != sums.Crc(summed) {
		return api.Inode{}, api.ErrForm
	}
	return n, api.OK
}

// isUnused is whether n is a right inode that is not used.
func isUnused(n api.Inode) bool {
	return n.Kind == api.Unused && n.Links == 0 && n.Size == 0 && len(n.Direct) == 0 && n.Node == 0
}

// rightUsed is whether n is a right inode that is used.
func rightUsed(n api.Inode) bool {
	return (n.Kind == api.File || n.Kind == api.Directory) &&
		within(n.Links, 0, api.MaxLinks) &&
		within(n.Size, 0, api.MaxFile) &&
		len(n.Direct) <= api.MaxDirect && Right(n.Direct) &&
		within(n.Node, 0, api.MaxBlocks-1)
}

// inodeHead is the bytes of n up to the noughts ahead of its sum.
func inodeHead(n api.Inode) []byte {
	b := octets.Add8(nil, uint8(n.Kind))
	b = octets.Add8(b, uint8(len(n.Direct)))
	b = octets.Add16(b, uint16(n.Links))
	b = octets.Add32(b, uint32(n.Size))
	b = padded(append(b, extentBytes(n.Direct)...), pointerAt)
	return octets.Add16(b, uint16(n.Node))
}

// readInode is what b says, right or not.
func readInode(b []byte) api.Inode {
	kind, _ := octets.U8(b, 0)
	count, _ := octets.U8(b, 1)
	links, _ := octets.U16(b, linksAt)
	size, _ := octets.U32(b, sizeAt)
	pointer, _ := octets.U16(b, pointerAt)
	return api.Inode{
		Kind:   api.Kind(kind),
		Links:  int(links),
		Size:   int(size),
		Direct: readExtents(b, directAt, int(count)),
		Node:   int(pointer),
	}
}
