package impl

import (
	"iter"
	"slices"
	"strconv"
	"strings"
)

// What stands at a term's place: a variable, a number, or a name with arguments.
const (
	TrmVar = 1
	TrmNum = 2
	TrmFun = 3
)

// TrmMost is how many places a term has at most, TrmArity how many arguments a name, TrmName how many bytes, TrmVars the greatest variable, TrmNums the greatest number.
const (
	TrmMost  = 40
	TrmArity = 3
	TrmName  = 8
	TrmVars  = 99999
	TrmNums  = 9999
)

// TrmCell is a place of a term: what stands there, which variable or number, or how many arguments, and the name. A term is its places, each ahead of its arguments.
type TrmCell struct {
	Kind int
	N    int
	Name string
}

// TrmOk says whether places are a term.
func TrmOk(t []TrmCell) bool {
	if len(t) > TrmMost {
		return false
	}
	missing := 1
	for _, c := range t {
		if missing == 0 || !cellOk(c) {
			return false
		}
		missing += cellArity(c) - 1
	}
	return missing == 0
}

// TrmArg is the k-th argument of a term; none, if there is none.
func TrmArg(t []TrmCell, k int) []TrmCell {
	tree := treeOf(t)
	if tree == nil || k < 0 || k >= len(tree.args) {
		return nil
	}
	return tree.args[k].list()
}

// TrmMake is a name with arguments.
func TrmMake(name string, args [][]TrmCell) []TrmCell {
	tree := &termTree{cell: TrmCell{Kind: TrmFun, N: len(args), Name: name}}
	if !cellOk(tree.cell) {
		return nil
	}
	for _, a := range args {
		// Each by itself: pieces of terms can be a term together, which would have other arguments than were given.
		arg := treeOf(a)
		if arg == nil {
			return nil
		}
		tree.args = append(tree.args, arg)
	}
	return tree.list()
}

// TrmFree is a term's variables, as they come first.
func TrmFree(t []TrmCell) []int {
	free, _ := numberVars(t)
	return free
}

// TrmShift is a term with each variable so many on; none, if that is too far.
func TrmShift(t []TrmCell, n int) []TrmCell {
	tree := treeOf(t)
	if tree == nil || n < 0 || n > TrmVars {
		return nil
	}
	return tree.shifted(n).list()
}

// TrmCanon is a term with its variables numbered from 0 on, as they come first.
func TrmCanon(t []TrmCell) []TrmCell {
	_, placeOf := numberVars(t)
	var canon []TrmCell
	for _, c := range t {
		if c.Kind == TrmVar {
			c.N = placeOf[c.N]
		}
		canon = append(canon, c)
	}
	return canon
}

// TrmSame says whether two terms are the same, place by place.
func TrmSame(a []TrmCell, b []TrmCell) bool {
	return slices.Equal(a, b)
}

// TrmText writes a term.
func TrmText(t []TrmCell) string {
	tree := treeOf(t)
	if tree == nil {
		return ""
	}
	return tree.text()
}

// TrmRead reads a term.
func TrmRead(s string) ([]TrmCell, bool) {
	r := &termReader{rest: s}
	tree := r.term()
	if tree == nil || r.rest != "" {
		return nil, false
	}
	t := tree.list()
	return t, t != nil
}

// cellOk says whether what is at a place may stand in a term, whatever stands around it.
func cellOk(c TrmCell) bool {
	switch c.Kind {
	case TrmVar:
		return c.Name == "" && c.N >= 0 && c.N <= TrmVars
	case TrmNum:
		return c.Name == "" && c.N >= -TrmNums && c.N <= TrmNums
	case TrmFun:
		return nameOk(c.Name) && c.N >= 0 && c.N <= TrmArity
	}
	return false
}

func nameOk(name string) bool {
	return name != "" && len(name) <= TrmName && countWhile(name, isSmall) == len(name)
}

// cellArity is how many terms follow a place as its arguments; N says that of a name alone.
func cellArity(c TrmCell) int {
	if c.Kind == TrmFun {
		return c.N
	}
	return 0
}

// numberVars is the variables of any places, as they come first, and at which place there each of them is.
func numberVars(t []TrmCell) ([]int, map[int]int) {
	var free []int
	placeOf := map[int]int{}
	for _, c := range t {
		if c.Kind != TrmVar {
			continue
		}
		if _, seen := placeOf[c.N]; !seen {
			placeOf[c.N] = len(free)
			free = append(free, c.N)
		}
	}
	return free, placeOf
}

// termTree is a term while a call lasts: a place, and the terms behind it that are its arguments.
type termTree struct {
	cell TrmCell
	args []*termTree
}

// treeOf is the tree of a term; nil, if places are none.
func treeOf(t []TrmCell) *termTree {
	if !TrmOk(t) {
		return nil
	}
	tree, _ := firstTree(t)
	return tree
}

// firstTree is the tree with which places begin, and the places behind it; TrmOk of all of them was asked before.
func firstTree(t []TrmCell) (*termTree, []TrmCell) {
	tree, rest := &termTree{cell: t[0]}, t[1:]
	for range cellArity(t[0]) {
		var arg *termTree
		arg, rest = firstTree(rest)
		tree.args = append(tree.args, arg)
	}
	return tree, rest
}

// nodes tells all that is in a tree, in the order of its places.
func (tree *termTree) nodes() iter.Seq[*termTree] {
	return func(yield func(*termTree) bool) {
		tree.tell(yield)
	}
}

// tell says whether more is wanted, so that a loop that is left early ends at every depth.
func (tree *termTree) tell(yield func(*termTree) bool) bool {
	if !yield(tree) {
		return false
	}
	for _, arg := range tree.args {
		if !arg.tell(yield) {
			return false
		}
	}
	return true
}

// shifted is a tree of its own with each variable so many on.
func (tree *termTree) shifted(n int) *termTree {
	other := &termTree{cell: tree.cell}
	if tree.cell.Kind == TrmVar {
		other.cell.N += n
	}
	for _, arg := range tree.args {
		other.args = append(other.args, arg.shifted(n))
	}
	return other
}

// varsBelow says whether all variables of a tree are below a number.
func (tree *termTree) varsBelow(n int) bool {
	for node := range tree.nodes() {
		if node.cell.Kind == TrmVar && node.cell.N >= n {
			return false
		}
	}
	return true
}

// list is the places of a tree in new memory; none, if they are no term.
func (tree *termTree) list() []TrmCell {
	var t []TrmCell
	for node := range tree.nodes() {
		t = append(t, node.cell)
	}
	if !TrmOk(t) {
		return nil
	}
	return t
}

func (tree *termTree) text() string {
	var text strings.Builder
	tree.write(&text)
	return text.String()
}

func (tree *termTree) write(text *strings.Builder) {
	switch tree.cell.Kind {
	case TrmVar:
		text.WriteString("X" + strconv.Itoa(tree.cell.N))
	case TrmNum:
		text.WriteString(strconv.Itoa(tree.cell.N))
	case TrmFun:
		text.WriteString(tree.cell.Name)
		tree.writeArgs(text)
	}
}

func (tree *termTree) writeArgs(text *strings.Builder) {
	if len(tree.args) == 0 {
		return
	}
	between := "("
	for _, arg := range tree.args {
		text.WriteString(between)
		arg.write(text)
		between = ","
	}
	text.WriteString(")")
}

// termReader takes a term's text from the front of what is left of it.
type termReader struct {
	rest   string
	places int
}

// term takes one term, whose bounds are looked at when all of it is there; nil, if the text does not go on with one.
func (r *termReader) term() *termTree {
	r.places++
	if r.places > TrmMost || r.rest == "" {
		// A text may open far more names than a term has places; to go on would only go deeper.
		return nil
	}
	switch {
	case r.skip("X"):
		return r.number(TrmVar, 1)
	case r.skip("-"):
		return r.number(TrmNum, -1)
	case isDigit(r.rest[0]):
		return r.number(TrmNum, 1)
	}
	return r.name()
}

// number takes decimals, of a variable or of a number with that sign.
func (r *termReader) number(kind int, sign int) *termTree {
	digits := r.take(countWhile(r.rest, isDigit))
	n, err := strconv.Atoi(digits)
	// Back to text again, where needless noughts show; a nought has no sign.
	if err != nil || strconv.Itoa(n) != digits || n == 0 && sign < 0 {
		return nil
	}
	return &termTree{cell: TrmCell{Kind: kind, N: sign * n}}
}

// name takes a name, and its arguments, if it has any.
func (r *termReader) name() *termTree {
	// A copy, so that a term does not hold on to the whole text.
	name := strings.Clone(r.take(countWhile(r.rest, isSmall)))
	tree := &termTree{cell: TrmCell{Kind: TrmFun, Name: name}}
	if !r.skip("(") {
		return tree
	}
	for {
		arg := r.term()
		if arg == nil {
			return nil
		}
		tree.args = append(tree.args, arg)
		tree.cell.N++
		if r.skip(")") {
			return tree
		}
		if !r.skip(",") {
			return nil
		}
	}
}

// skip takes a text, if what is left begins with it.
func (r *termReader) skip(s string) bool {
	rest, found := strings.CutPrefix(r.rest, s)
	r.rest = rest
	return found
}

// take takes so many bytes.
func (r *termReader) take(n int) string {
	taken := r.rest[:n]
	r.rest = r.rest[n:]
	return taken
}

// countWhile is how many bytes at the front of a text are all of one sort.
func countWhile(s string, is func(byte) bool) int {
	n := 0
	for n < len(s) && is(s[n]) {
		n++
	}
	return n
}

func isSmall(b byte) bool {
	return b >= 'a' && b <= 'z'
}

func isDigit(b byte) bool {
	return b >= '0' && b <= '9'
}
