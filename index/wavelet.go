package index

import (
	"slices"
	"strings"
)

// node is a node of a wavelet tree, or a leaf.
type node struct {
	low, high *node // both nil in a leaf
	split     byte  // the least byte with bit 1; of a leaf its only byte
	ones      []int // how many of the first bits are 1
}

// lettersOf returns the different bytes of s, rising.
func lettersOf(s []byte) []byte {
	l := slices.Clone(s)
	slices.Sort(l)
	return slices.Compact(l)
}

// newNode returns the tree of s over its letters.
func newNode(s, letters []byte) *node {
	k := len(letters)
	if k == 0 {
		return &node{}
	}
	if k == 1 {
		return &node{split: letters[0]}
	}
	half := (k + 1) / 2
	n := &node{split: letters[half], ones: []int{0}}
	var low, high []byte
	for _, c := range s {
		ones := n.ones[len(n.ones)-1]
		if c >= n.split {
			high = append(high, c)
			ones++
		} else {
			low = append(low, c)
		}
		n.ones = append(n.ones, ones)
	}
	// The capacity ends with each part, so that nothing that a tree appends could reach the other's letters.
	n.low = newNode(low, letters[:half:half])
	n.high = newNode(high, letters[half:k:k])
	return n
}

func (n *node) isLeaf() bool { return n.low == nil }

// rank returns how often c stands in the first i bytes.
func (n *node) rank(c byte, i int) int {
	for !n.isLeaf() {
		ones := n.ones[i]
		if c >= n.split {
			i, n = ones, n.high
		} else {
			i, n = i-ones, n.low
		}
	}
	if c != n.split {
		return 0
	}
	return i
}

// at returns the byte at i.
func (n *node) at(i int) byte {
	for !n.isLeaf() {
		ones := n.ones[i]
		if n.ones[i+1] > ones {
			i, n = ones, n.high
		} else {
			i, n = i-ones, n.low
		}
	}
	return n.split
}

// write writes the bits of n, and then those of its two trees.
func (n *node) write(b *strings.Builder) {
	if n.isLeaf() {
		return
	}
	for i := 1; i < len(n.ones); i++ {
		bit := n.ones[i] - n.ones[i-1]
		b.WriteRune(rune('0' + bit))
	}
	n.low.write(b)
	n.high.write(b)
}
