package graph

import (
	"bytes"

	"backwash/api"
	"backwash/wire"
)

// reader has the bytes that are left, and the first error that was met. Behind an error each number is 0, and so each list is at its end: nobody has to ask ahead of the end.
type reader struct {
	left []byte
	err  api.Errno
}

// Read a graph.
func Read(b []byte) (api.Graph, api.Errno) {
	if len(b) > api.MaxBytes {
		return api.Graph{}, api.ErrLong
	}
	r := reader{left: b}
	r.begin()
	var g api.Graph
	g.Parent, g.Bound = r.scopes()
	g.Nodes = r.nodes()
	g.Edges = r.edges()
	r.end()
	if r.err != api.OK {
		return api.Graph{}, r.err
	}
	return g, api.OK
}

// fail keeps an error, unless one was met ahead of it.
func (r *reader) fail(err api.Errno) {
	if r.err == api.OK {
		r.err = err
	}
}

// begin reads the mark.
func (r *reader) begin() {
	switch {
	case bytes.HasPrefix(r.left, []byte(mark)):
		r.left = r.left[len(mark):]
	case bytes.HasPrefix([]byte(mark), r.left):
		r.fail(api.ErrShort)
	default:
		r.fail(api.ErrForm)
	}
}

// end asks that no bytes are left.
func (r *reader) end() {
	if len(r.left) > 0 {
		r.fail(api.ErrForm)
	}
}

// scopes reads of all scopes their parents and bounds.
func (r *reader) scopes() ([]int, []int) {
	parent, bound := []int{-1}, []int{0}
	for range r.count(1, api.MaxScopes) - 1 {
		parent = append(parent, r.small())
		bound = append(bound, r.small())
	}
	return parent, bound
}

// nodes reads the operators.
func (r *reader) nodes() []api.Node {
	var nodes []api.Node
	for range r.count(0, api.MaxNodes) {
		nodes = append(nodes, api.Node{Kind: r.small(), Scope: r.small(), Arg: r.signed(), Prog: r.program()})
	}
	return nodes
}

// program reads an operator's program.
func (r *reader) program() []api.Ins {
	var p []api.Ins
	for range r.count(0, api.MaxCode) {
		p = append(p, api.Ins{Op: r.small(), N: r.signed()})
	}
	return p
}

// edges reads the edges.
func (r *reader) edges() []api.Edge {
	var edges []api.Edge
	for range r.count(0, api.MaxEdges) {
		edges = append(edges, api.Edge{From: r.small(), To: r.small(), Port: r.small(), Exchange: r.exchange()})
	}
	return edges
}

// count reads how many of something there are. Of an error it is 0, even where there must be more.
func (r *reader) count(least, most uint64) int {
	n := r.unsigned()
	if n < least || n > most {
		r.fail(api.ErrLong)
		return 0
	}
	return int(n)
}

// small reads a number that may not be above the greatest one.
func (r *reader) small() int {
	n := r.unsigned()
	if n > greatest {
		r.fail(api.ErrOver)
		return 0
	}
	return int(n)
}

// exchange reads whether an edge is an exchange.
func (r *reader) exchange() bool {
	n := r.unsigned()
	if n > 1 {
		r.fail(api.ErrForm)
	}
	return n == 1
}

// unsigned reads a number without a sign.
func (r *reader) unsigned() uint64 {
	if r.err != api.OK {
		return 0
	}
	n, size, err := wire.ReadUint(r.left)
	r.left, r.err = r.left[size:], err
	return n
}

// signed reads a number with a sign.
func (r *reader) signed() int64 {
	if r.err != api.OK {
		return 0
	}
	n, size, err := wire.ReadInt(r.left)
	r.left, r.err = r.left[size:], err
	return n
}
