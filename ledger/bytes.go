package ledger

import (
	"strings"

	"redoubt/api"
	"redoubt/deed"
	"redoubt/pack"
)

// opNums is how many numbers stand ahead of an operation's texts, opTexts how many these are.
const (
	opNums  = 6
	opTexts = 2
)

// Pack answers the ledger as bytes.
func (l *Ledger) Pack() string {
	if l == nil {
		return ""
	}
	var out strings.Builder
	out.WriteString(pack.Nums(l.fence, l.settled))
	out.WriteString(deed.PackOps(l.ops...))
	out.WriteString(pack.Nums(len(l.lost)))
	for _, o := range l.lost {
		out.WriteString(pack.Nums(o.N, o.Epoch, o.Kind, o.Site, o.Client, o.Seq, o.Sheet.Size))
		out.WriteString(pack.Text(o.Name))
	}
	return out.String()
}

// Load answers the ledger of bytes.
func Load(quota, room int, s string) (*Ledger, api.Errno) {
	l, e := New(quota, room)
	if e != api.OK {
		return nil, e
	}
	r := pack.Read(s)
	l.fence, l.settled = r.Num(), r.Num()
	begin := len(s) - r.Left()
	passOps(r)
	ops, e := deed.ParseOps(s[begin : len(s)-r.Left()])
	if e != api.OK {
		return nil, e
	}
	l.ops, l.lost = ops, readLost(r)
	if !r.Done() || !l.isRight() {
		return nil, api.ErrForm
	}
	l.standing = newStanding(l.ops...)
	return l, api.OK
}

// passOps reads over operations, to see where they end.
func passOps(r *pack.Reader) {
	for range r.Count() {
		for range opNums {
			r.Num()
		}
		for range opTexts {
			r.Text()
		}
	}
}

func readLost(r *pack.Reader) []api.Op {
	var list []api.Op
	for range r.Count() {
		o := api.Op{N: r.Num(), Epoch: r.Num(), Kind: r.Num(), Site: r.Num(), Client: r.Num(), Seq: r.Num()}
		o.Sheet.Size = r.Num()
		o.Name = r.Text()
		if !r.Good() {
			return nil
		}
		list = append(list, o)
	}
	return list
}

// isRight answers whether what was read can be a ledger's.
func (l *Ledger) isRight() bool {
	if !deed.Row(api.Spot{}, l.ops...) {
		return false
	}
	if l.fence < l.Last().Epoch || l.fence > api.MaxEpochs || l.settled < 0 || l.settled > len(l.ops) {
		return false
	}
	for _, o := range l.lost {
		if !mayBeLost(o) {
			return false
		}
	}
	return true
}

func mayBeLost(o api.Op) bool {
	placed := within(o.N, 1, maxPlaces) && within(o.Epoch, 1, api.MaxEpochs) && within(o.Site, 0, api.Sites-1)
	asked := within(o.Kind, api.OpPut, api.OpReign) && within(o.Client, 0, api.MaxClients-1) && within(o.Seq, 0, api.MaxSeq)
	return placed && asked && within(o.Sheet.Size, 0, api.MaxBackup) && len(o.Name) <= api.MaxName
}

func within(n, least, most int) bool {
	return n >= least && n <= most
}
