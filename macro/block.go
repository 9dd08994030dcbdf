package macro

import "platelayer/api"

// Heads that are no macro's name.
const (
	headMacro = ".macro"
	headEndm  = ".endm"
	headRept  = ".rept"
	headEndr  = ".endr"
	headIf    = ".if"
	headElse  = ".else"
	headEndif = ".endif"
	headEqu   = ".equ"
)

// block is what stands from a head up to the end that is its own.
type block struct {
	first Line   // the head's own
	lines []Line // up to the end, or to the .else of an .if
	other []Line // behind that .else
	count int    // lines in all, the first and the last one too
}

// endOf answers the head of what ends that which begins with head.
func endOf(head string) string {
	switch head {
	case headMacro:
		return headEndm
	case headRept:
		return headEndr
	}
	return headEndif
}

// cut answers the block that l begins with: ErrEnd, if it does not end; ErrForm, at its end, if more stands behind that, or behind its .else.
func cut(l []Line) (block, api.Fault) {
	middle, end := find(l)
	if end == 0 {
		return block{}, l[0].fault(api.ErrEnd)
	}
	if more(l[end]) || middle < end && more(l[middle]) {
		return block{}, l[end].fault(api.ErrForm)
	}
	b := block{first: l[0], lines: l[1:middle], count: end + 1}
	if middle < end {
		b.other = l[middle+1 : end]
	}
	return b, api.Fault{}
}

// find answers where the end of what l begins with stands (0: nowhere), and where its own .else does, or else the end again.
func find(l []Line) (int, int) {
	begin := l[0].head()
	last := endOf(begin)
	middle, open := 0, 0
	for i, x := range l {
		switch x.head() {
		case begin:
			open++
		case last:
			open--
		case headElse:
			if begin == headIf && open == 1 && middle == 0 {
				middle = i
			}
		}
		if open > 0 {
			continue
		}
		if middle == 0 {
			middle = i
		}
		return middle, i
	}
	return 0, 0
}

// more answers whether a line has more than its head.
func more(l Line) bool { return len(l.behind()) > 0 }
