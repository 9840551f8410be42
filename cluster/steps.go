package cluster

import (
	"pannier/api"
	"pannier/codec"
	"pannier/node"
)

// withNode answers a step that a node does not refuse.
func withNode(do func(n *node.Node, s api.Step)) func(at spot, s api.Step) api.Errno {
	return func(at spot, s api.Step) api.Errno {
		do(at.node(), s)
		return api.OK
	}
}

// withPacket answers a step with the packet at its place.
func withPacket(do func(at spot, id int) api.Errno) func(at spot, s api.Step) api.Errno {
	return func(at spot, s api.Step) api.Errno {
		id, is := at.net.At(s.At)
		if !is {
			return api.ErrNone
		}
		return do(at, id)
	}
}

func deliver(at spot, id int) api.Errno {
	p, err := at.net.Take(id)
	if err != api.OK {
		return err
	}
	m, err := codec.ReadMsg([]byte(p.Body))
	if n := at.nodes[p.To]; n != nil && err == api.OK {
		n.On(m)
	}
	return api.OK
}

func lose(at spot, id int) api.Errno {
	_, err := at.net.Take(id)
	return err
}

func double(at spot, id int) api.Errno {
	_, err := at.net.Twice(id)
	return err
}

func crash(at spot, s api.Step) api.Errno {
	err := at.disks[at.id].Crash(s.Keep)
	if err == api.OK {
		at.nodes[at.id] = nil
	}
	return err
}

func (c *Cluster) restart(at spot, _ api.Step) api.Errno {
	if at.node() != nil {
		return api.ErrTwice
	}
	n, err := node.New(c.config, at.id, at.disks[at.id], at.clocks.Now(at.id))
	if err == api.OK {
		at.nodes[at.id] = n
	}
	return err
}

func tick(at spot, s api.Step) api.Errno {
	if err := at.clocks.Tick(s.Time, s.On); err != api.OK {
		return err
	}
	for id, n := range at.nodes {
		if n != nil {
			n.Tick(at.clocks.Now(id))
		}
	}
	return api.OK
}

func compact(at spot, _ api.Step) api.Errno {
	return at.node().Compact()
}

func stop(at spot, s api.Step) api.Errno {
	at.disks[at.id].Stop(s.At)
	return api.OK
}

func (c *Cluster) call(at spot, s api.Step) api.Errno {
	err := at.node().Call(s.Call)
	if err == api.OK {
		c.made = append(c.made, api.Made{Step: c.steps, Shard: at.number, Node: at.id, Call: kept(s.Call)})
	}
	return err
}

func (c *Cluster) flush(at spot, _ api.Step) api.Errno {
	out, err := at.node().Flush()
	for _, o := range out {
		if o.IsAnswer {
			c.told = append(c.told, api.Told{Step: c.steps, Shard: at.number, Node: at.id, Answer: o.Answer})
			continue
		}
		at.send(o.Msg)
	}
	return err
}

// send has a message go its way. One that has no bytes, or for which there is no room, is lost, as any may be
// that was sent: its sender need not know.
func (p spot) send(m api.Msg) {
	if body, err := codec.Msg(m); err == api.OK {
		p.net.Send(m.From, m.To, string(body))
	}
}
