package script

import "redoubt/api"

// paper is bytes that are written; it is bad when something can't be.
type paper struct {
	out []byte
	bad bool
}

func (p *paper) numbers(vals ...int) {
	for _, n := range vals {
		if n < 0 || n >= byteSize {
			p.bad = true
		}
		p.out = append(p.out, byte(n))
	}
}

func (p *paper) pair(n int) {
	if n < 0 || n >= byteSize*byteSize {
		p.bad = true
	}
	p.out = append(p.out, byte(n), byte(n/byteSize))
}

func (p *paper) ask(a api.Ask) {
	p.numbers(a.Kind, a.Client, a.Seq, a.Mode, a.Lag)
	if len(a.Name) >= maxName || len(a.Data) >= maxData {
		p.bad = true
		return
	}
	p.numbers(len(a.Name))
	p.out = append(p.out, a.Name...)
	p.pair(len(a.Data))
	p.out = append(p.out, a.Data...)
}

func (p *paper) keeps(list ...int) {
	if len(list) >= maxKeeps {
		p.bad = true
		return
	}
	p.numbers(len(list))
	p.numbers(list...)
}

// act writes an act. What its row doesn't name must be zero.
func (p *paper) act(a api.Act) {
	rest := a
	p.numbers(a.Kind)
	switch a.Kind {
	case api.ActAsk:
		p.numbers(a.Node)
		p.ask(a.Ask)
		rest.Node, rest.Ask = 0, api.Ask{}
	case api.ActDeliver, api.ActDrop, api.ActTwin, api.ActLose:
		p.numbers(a.K)
		rest.K = 0
	case api.ActTick:
		p.numbers(a.Node, a.Draw)
		rest.Node, rest.Draw = 0, 0
	case api.ActCrash, api.ActStart:
		p.numbers(a.Node)
		p.keeps(a.Keeps...)
		rest.Node, rest.Keeps = 0, nil
	case api.ActFuse:
		p.numbers(a.Node, a.K)
		rest.Node, rest.K = 0, 0
	case api.ActFlip:
		p.numbers(a.Node, a.K)
		p.pair(a.Draw)
		rest.Node, rest.K, rest.Draw = 0, 0, 0
	default:
		p.bad = true
	}
	if rest.Node != 0 || rest.K != 0 || rest.Draw != 0 || len(rest.Keeps) > 0 || rest.Ask != (api.Ask{}) {
		p.bad = true
	}
}

// Print answers acts as bytes.
func Print(acts ...api.Act) (string, api.Errno) {
	if len(acts) > maxActs {
		return "", api.ErrArg
	}
	p := &paper{}
	for _, a := range acts {
		p.act(a)
		if p.bad {
			return "", api.ErrArg
		}
	}
	if len(p.out) > api.MaxScript {
		return "", api.ErrLong
	}
	return string(p.out), api.OK
}
