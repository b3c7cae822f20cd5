package poll

import (
	"slices"

	"redoubt/api"
)

const (
	maxData = 8000   // bytes of an entry
	maxSnap = 100000 // bytes of a snapshot
	nobody  = -1
)

// kept is what a node must not forget, and what of it is another one since it was asked for.
type kept struct {
	term, vote     int
	base, baseTerm int
	snap           string
	entries        []api.Entry
	touched        bool
	from           int // the least number from which on entries were put or taken away, 0 if none were
}

// mayKeep answers whether a node may have kept that.
func mayKeep(k api.Kept) bool {
	if !within(k.Term, 0, api.MaxTerm) || !within(k.Vote, nobody, api.PerSite-1) || !within(k.Base, 0, api.MaxTerm) {
		return false
	}
	if !within(k.BaseTerm, 0, k.Term) || (k.Base == 0) != (k.BaseTerm == 0) || len(k.Snap) > maxSnap {
		return false
	}
	return mayFollow(k.BaseTerm, k.Term, k.Entries)
}

// mayFollow answers whether entries may stand behind one of the term prev, told in a term.
func mayFollow(prev, term int, entries []api.Entry) bool {
	for _, e := range entries {
		if e.Term < prev || !within(e.Term, 1, term) || len(e.Data) > maxData {
			return false
		}
		prev = e.Term
	}
	return true
}

func within(n, least, most int) bool {
	return n >= least && n <= most
}

// last answers the number of the last entry.
func (k *kept) last() int {
	return k.base + len(k.entries)
}

// termAt answers the term at a number, and whether it is known.
func (k *kept) termAt(n int) (int, bool) {
	if n == k.base {
		return k.baseTerm, true
	}
	if n < k.base || n > k.last() {
		return 0, false
	}
	return k.entries[n-k.base-1].Term, true
}

func (k *kept) lastTerm() int {
	term, _ := k.termAt(k.last())
	return term
}

// behind answers the entries behind a number, which isn't below the base.
func (k *kept) behind(n int) []api.Entry {
	return k.entries[n-k.base:]
}

func (k *kept) setTerm(term, vote int) {
	k.term, k.vote, k.touched = term, vote, true
}

func (k *kept) setVote(vote int) {
	if k.vote != vote {
		k.vote, k.touched = vote, true
	}
}

// put lets entries stand behind a number: from the first one on that isn't there.
func (k *kept) put(n int, entries ...api.Entry) {
	for i, e := range entries {
		if term, known := k.termAt(n + 1 + i); known && term == e.Term {
			continue
		}
		k.entries = append(k.entries[:n+i-k.base], entries[i:]...)
		k.mark(n + 1 + i)
		return
	}
}

// mark says that entries were put or taken away from a number on.
func (k *kept) mark(n int) {
	if k.from == 0 || n < k.from {
		k.from = n
	}
	k.touched = true
}

// lay lets a snapshot take the place of all entries up to a number; those that stay are behind it.
func (k *kept) lay(base, baseTerm int, snap string, stay []api.Entry) {
	k.base, k.baseTerm, k.snap, k.entries = base, baseTerm, snap, slices.Clone(stay)
	k.from, k.touched = base+1, true
}

// changes answers what is another one, which is told once.
func (k *kept) changes() (api.Save, bool) {
	s, touched := api.Save{Term: k.term, Vote: k.vote, From: k.from}, k.touched
	if k.from > 0 {
		s.Entries = slices.Clone(k.behind(k.from - 1))
	}
	k.from, k.touched = 0, false
	return s, touched
}

func (k *kept) all() api.Kept {
	return api.Kept{Term: k.term, Vote: k.vote, Base: k.base, BaseTerm: k.baseTerm, Snap: k.snap, Entries: slices.Clone(k.entries)}
}
