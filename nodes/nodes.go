// Package nodes holds what a tree is made of. Package tree looks at it and
// package edit turns it, so that a tree of the one is turned by the other.
package nodes

import (
	"slices"

	"quoin/api"
)

// Root is the node that is always there; Nobody is the parent of none.
const (
	Root   = 0
	Nobody = -1
)

// Nodes is nodes by their ids. What they may be is asked by those who turn them:
// here they are only held.
type Nodes struct {
	most int
	all  map[int]*node
}

type node struct {
	api.Node
	kids []int
}

// New answers the root alone, where most nodes may be at the most.
func New(most int) *Nodes {
	s := &Nodes{most: min(max(most, 1), api.MaxNodes), all: map[int]*node{}}
	s.all[Root] = &node{Node: api.Node{ID: Root, Parent: Nobody}}
	return s
}

// Copy answers nodes like s.
func (s *Nodes) Copy() *Nodes {
	c := &Nodes{most: s.most, all: make(map[int]*node, s.Len())}
	for id, n := range s.all {
		c.all[id] = &node{Node: lent(n.Node), kids: slices.Clone(n.kids)}
	}
	return c
}

// Len answers how many nodes are there.
func (s *Nodes) Len() int {
	return len(s.all)
}

// IsFull answers whether as many nodes are there as may be.
func (s *Nodes) IsFull() bool {
	return s.Len() >= s.most
}

// Has answers whether a node is there.
func (s *Nodes) Has(id int) bool {
	return s.all[id] != nil
}

// IsText answers whether a node is there, and a text.
func (s *Nodes) IsText(id int) bool {
	n := s.all[id]
	return n != nil && n.Text
}

// Node answers a node, or false if it isn't there.
func (s *Nodes) Node(id int) (api.Node, bool) {
	n := s.all[id]
	if n == nil {
		return api.Node{}, false
	}
	return lent(n.Node), true
}

// Kids answers a node's kids, in their order.
func (s *Nodes) Kids(id int) []int {
	if n := s.all[id]; n != nil {
		return slices.Clone(n.kids)
	}
	return nil
}

// Parent answers whose kid a node is, or Nobody.
func (s *Nodes) Parent(id int) int {
	if n := s.all[id]; n != nil {
		return n.Parent
	}
	return Nobody
}

// Put puts n there as its parent's kid, ahead of the kid before.
func (s *Nodes) Put(n api.Node, before int) {
	s.all[n.ID] = &node{Node: lent(n)}
	s.link(n.ID, n.Parent, before)
}

// Give gives the node of n's id the bytes and the declarations of n.
func (s *Nodes) Give(n api.Node) {
	to := s.all[n.ID]
	to.Data = n.Data
	to.Style = slices.Clone(n.Style)
}

// Move makes a node, with all below it, a kid of another parent, ahead of its
// kid before.
func (s *Nodes) Move(id, parent, before int) {
	s.unlink(id)
	s.link(id, parent, before)
}

// Drop takes a node away, with all below it.
func (s *Nodes) Drop(id int) {
	s.unlink(id)
	s.forget(id)
}

// link makes id a kid of parent: the last one, if before is none.
func (s *Nodes) link(id, parent, before int) {
	p := s.all[parent]
	at := slices.Index(p.kids, before)
	if at < 0 {
		at = len(p.kids)
	}
	p.kids = slices.Insert(p.kids, at, id)
	s.all[id].Parent = parent
}

func (s *Nodes) unlink(id int) {
	p := s.all[s.Parent(id)]
	at := slices.Index(p.kids, id)
	p.kids = slices.Delete(p.kids, at, at+1)
}

func (s *Nodes) forget(id int) {
	for _, kid := range s.all[id].kids {
		s.forget(kid)
	}
	delete(s.all, id)
}

// lent answers n with a list of its own.
func lent(n api.Node) api.Node {
	n.Style = slices.Clone(n.Style)
	return n
}
