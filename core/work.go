package core

import (
	"berthage/api"
	"berthage/order"
	"berthage/reply"
	"berthage/rule"
	"berthage/sat"
	"berthage/set"
)

// Work is the effect of a request, or of a choice, part by part. A nil Work, and a zero one, has nothing left.
type Work struct {
	req    api.Request
	choice api.Choice
	left   part      // the part that comes next; nil if none is left
	job    api.Job   // the job that is meant: as it came in, or as it was before it was changed
	idle   int       // how many of its nodes are Idle since it ended
	target int64     // the time up to which a ReqTick goes
	reply  api.Reply // what is told
	ok     bool      // the choice takes effect
}

// part performs a part of an effect on a core that is not None, and returns the one that follows; nil if none does.
type part func(w *Work, c *Core) part

// NewWork returns the effect of a request.
func NewWork(r api.Request) *Work {
	return &Work{req: rule.Clean(r), left: (*Work).begin}
}

// NewCommit returns the effect of a choice.
func NewCommit(x api.Choice) *Work {
	return &Work{choice: x, left: (*Work).check}
}

// Step performs the next part, and reports whether none is left.
func (w *Work) Step(c *Core) bool {
	switch {
	case w.Done():
	case c.None():
		w.left = w.fail(api.ErrState)
	default:
		w.left = w.left(w, c)
	}
	return w.Done()
}

// Done reports whether no part is left.
func (w *Work) Done() bool {
	return w == nil || w.left == nil
}

// Reply returns the reply, which is complete when no part is left.
func (w *Work) Reply() api.Reply {
	if w == nil {
		return api.Reply{}
	}
	return w.reply
}

// OK reports whether the choice takes effect; its first part decides on it.
func (w *Work) OK() bool {
	return w != nil && w.ok
}

// fail makes an error the reply, after which no part follows.
func (w *Work) fail(e api.Errno) part {
	w.reply, w.ok = reply.Fail(e), false
	return nil
}

// tell makes the job with this id, as it is now, the reply, and returns it.
func (w *Work) tell(c *Core, id int) api.Job {
	j, _ := c.Get(id)
	w.reply = reply.Job(j)
	return j
}

// begin is the first part of every request.
func (w *Work) begin(c *Core) part {
	switch {
	case c.Closed():
		return w.fail(api.ErrClosed)
	case !rule.Is(w.req.Kind):
		return w.fail(api.ErrForm)
	case rule.Reads(w.req.Kind):
		return w.read(c)
	default:
		return w.change(c)
	}
}

// read is the only part of a request that just asks.
func (w *Work) read(c *Core) part {
	switch w.req.Kind {
	case api.ReqQuery:
		if _, e := c.Get(w.req.Id); e != api.OK {
			return w.fail(e)
		}
		w.tell(c, w.req.Id)
	case api.ReqInfo:
		w.reply = reply.Three(c.Nodes.Counts())
	case api.ReqLoad:
		w.reply = reply.Three(c.Jobs.Counts())
	case api.ReqClock:
		w.clock(c)
	}
	return nil
}

// clock makes the present time, and how many nodes are free at it, the reply.
func (w *Work) clock(c *Core) {
	w.reply = api.Reply{Start: c.Now(), A: c.Profile.Free(c.Now())}
}

// change is the first part of a request that changes something.
func (w *Work) change(c *Core) part {
	switch w.req.Kind {
	case api.ReqSubmit:
		return w.submit(c)
	case api.ReqCancel:
		return w.finish(c, api.Cancelled)
	case api.ReqComplete:
		return w.finish(c, api.Completed)
	case api.ReqHold:
		return w.hold(c)
	case api.ReqRelease:
		return w.release(c)
	case api.ReqDrain:
		return w.drain(c)
	case api.ReqResume:
		return w.resume(c)
	case api.ReqTick:
		return w.tick(c)
	case api.ReqStop:
		c.closed = true
	}
	return nil
}

// submit is the first part of ReqSubmit.
func (w *Work) submit(c *Core) part {
	if e := Wants(c, w.req); e != api.OK {
		return w.fail(e)
	}
	id, e := c.Submit(w.req)
	if e != api.OK {
		return w.fail(e)
	}
	w.job = w.tell(c, id)
	if w.job.State == api.Held {
		return nil
	}
	return (*Work).displace
}

// release is the first part of ReqRelease.
func (w *Work) release(c *Core) part {
	if e := c.Jobs.Free(w.req.Id); e != api.OK {
		return w.fail(e)
	}
	w.job = w.tell(c, w.req.Id)
	return (*Work).displace
}

// displace drops one plan that stands behind the job that came in. It is the last part if there is none.
func (w *Work) displace(c *Core) part {
	if c.drop(order.Behind(w.job, c.In(api.Pending)...)...) {
		return (*Work).displace
	}
	return nil
}

// hold is the first part of ReqHold.
func (w *Work) hold(c *Core) part {
	w.job, _ = c.Get(w.req.Id)
	if e := c.Hold(w.req.Id); e != api.OK {
		return w.fail(e)
	}
	w.tell(c, w.req.Id)
	return (*Work).vacate
}

// finish is the first part of ReqCancel and ReqComplete, which differ in the state that the job gets.
func (w *Work) finish(c *Core, state int) part {
	w.job, _ = c.Get(w.req.Id)
	if e := c.Finish(w.req.Id, state, c.Now()); e != api.OK {
		return w.fail(e)
	}
	w.tell(c, w.req.Id)
	return (*Work).give
}

// give gives back the nodes of the job that has ended.
func (w *Work) give(c *Core) part {
	if w.job.State == api.Running {
		w.idle, _ = c.Give(set.Set(w.job.Nodes))
	}
	return (*Work).vacate
}

// vacate is the last part of requests that end a job or hold it: the profile gets back what the job had ahead.
func (w *Work) vacate(c *Core) part {
	if s, ok := Plan(w.job); ok {
		c.Release(s)
	}
	if w.job.State == api.Running {
		c.Add(c.Now(), w.job.End, w.idle)
	}
	return nil
}

// drain is the first part of ReqDrain.
func (w *Work) drain(c *Core) part {
	switch c.State(w.req.Node) {
	case api.Idle, api.Busy:
		return w.clear(c)
	case api.Draining, api.Drained:
		return w.fail(api.ErrState)
	default:
		return w.fail(api.ErrNode)
	}
}

// clear drops one plan, as it may count on the node. It is the last part if there is none: it drains the node.
func (w *Work) clear(c *Core) part {
	if c.drop(c.In(api.Pending)...) {
		return (*Work).clear
	}
	return w.turn(c, c.Drain(w.req.Node), -1)
}

// resume is the only part of ReqResume.
func (w *Work) resume(c *Core) part {
	return w.turn(c, c.Resume(w.req.Node), 1)
}

// turn ends a request for a node: it has failed, or by nodes more are free from when on nobody has this one.
func (w *Work) turn(c *Core, e api.Errno, by int) part {
	if e != api.OK {
		return w.fail(e)
	}
	n := w.req.Node
	c.Add(c.since(n), api.Forever, by)
	w.reply = api.Reply{Id: n, State: c.State(n)}
	return nil
}

// tick is the first part of ReqTick.
func (w *Work) tick(c *Core) part {
	if w.req.By < 1 || w.req.By > sat.Sub(api.MaxTime, c.Now()) {
		return w.fail(api.ErrTime)
	}
	w.target = c.Now() + w.req.By
	return w.forward(c)
}

// forward goes to the next time at which jobs end or begin. It is the last part if there is none up to the target.
func (w *Work) forward(c *Core) part {
	t := c.next()
	if t > w.target {
		c.Advance(w.target)
		w.clock(c)
		return nil
	}
	// Every part goes to a later time, so that the last one comes.
	if e := c.Advance(t); e != api.OK {
		return w.fail(e)
	}
	c.expire(t)
	c.start(t)
	return (*Work).forward
}

// check is the first part of a choice, and the only one if it cannot take effect.
func (w *Work) check(c *Core) part {
	if c.Closed() {
		return w.fail(api.ErrClosed)
	}
	if !c.Fits(w.choice) {
		return nil
	}
	w.job, _ = c.Get(w.choice.Id)
	w.ok = true
	return (*Work).leave
}

// leave releases the span of the plan that the job has had.
func (w *Work) leave(c *Core) part {
	if s, ok := Plan(w.job); ok {
		c.Release(s)
	}
	return (*Work).enter
}

// enter reserves the span that is chosen.
func (w *Work) enter(c *Core) part {
	w.job.Plan = w.choice.At
	if s, ok := Plan(w.job); ok {
		c.Reserve(s)
	}
	return (*Work).settle
}

// settle is the last part of a choice: the job begins, or has its plan.
func (w *Work) settle(c *Core) part {
	if w.choice.At == c.Now() {
		c.launch(w.job)
	} else {
		c.Jobs.Plan(w.choice.Id, w.choice.At)
	}
	return nil
}
