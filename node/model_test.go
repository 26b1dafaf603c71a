package node_test

import (
	"slices"

	"grapevine/api"
	"grapevine/conf"
	"grapevine/epoch"
	"grapevine/node"
	"grapevine/roster"
	"grapevine/slots"
	"grapevine/wire"
)

// vote is the stand of a model: its epoch is 0 where it doesn't stand.
type vote struct {
	epoch, end      int
	voters, granted []int
}

// report is that somebody misses another one.
type report struct{ about, by int }

// model is a node as the chapters word it, of maps and lists of its own, with no other layer's calls.
type model struct {
	id, timeout, now, master, offset int
	plan                             int // -1 is none
	epochs                           epoch.Epochs
	owner, held                      [64]int
	members                          map[int]roster.Member
	bans                             map[int]int
	cursor                           int
	waits, met                       map[int]int // since when a ping waits; the later one of pinged and heard
	reports                          map[report]int
	stand                            vote
	gave                             map[int]int
	out                              []node.Out
	events                           []node.Event
}

// modelOf is a model of a state.
func modelOf(s conf.State, timeout, now int) *model {
	m := &model{id: s.ID, timeout: timeout, now: now, epochs: s.Epochs}
	m.clear()
	m.master, m.owner, m.held = s.Master, s.Table.Owner, s.Table.Epoch
	for _, k := range s.Known {
		m.members[k.ID] = roster.Member{ID: k.ID, Master: k.Master, Config: k.Config, FailAt: -1}
		m.met[k.ID] = now
	}
	return m
}

func (m *model) clear() {
	m.members, m.bans, m.cursor = map[int]roster.Member{}, map[int]int{}, 0
	m.waits, m.met = map[int]int{}, map[int]int{}
	m.reports, m.stand, m.gave = map[report]int{}, vote{}, map[int]int{}
	m.owner, m.held = [64]int{}, [64]int{}
	m.master, m.plan = 0, -1
}

// ids are the members' ids, rising.
func (m *model) ids() []int {
	var list []int
	for id := range m.members {
		list = append(list, id)
	}
	slices.Sort(list)
	return list
}

func (m *model) list() []roster.Member {
	var list []roster.Member
	for _, id := range m.ids() {
		list = append(list, m.members[id])
	}
	return list
}

func (m *model) state() conf.State {
	s := conf.State{ID: m.id, Master: m.master, Epochs: m.epochs}
	for _, o := range m.list() {
		s.Known = append(s.Known, conf.Known{ID: o.ID, Master: o.Master, Config: o.Config})
	}
	s.Table.Owner, s.Table.Epoch = m.owner, m.held
	return s
}

// has is the slots of somebody.
func (m *model) has(id int) (set slots.Set) {
	for i, o := range m.owner {
		if o == id {
			set |= 1 << i
		}
	}
	return set
}

func (m *model) owners() []int {
	var list []int
	for _, o := range m.owner {
		if o != 0 && !slices.Contains(list, o) {
			list = append(list, o)
		}
	}
	slices.Sort(list)
	return list
}

func (m *model) serves() bool { return m.master == 0 && m.has(m.id) != 0 }

func (m *model) late() []int {
	var list []int
	for _, id := range m.ids() {
		if since, waits := m.waits[id]; waits && m.now-since > m.timeout {
			list = append(list, id)
		}
	}
	return list
}

// by is whose reports about somebody count.
func (m *model) by(about int) []int {
	var list []int
	for r, at := range m.reports {
		if r.about == about && m.now-at <= 2*m.timeout {
			list = append(list, r.by)
		}
	}
	slices.Sort(list)
	return list
}

func (m *model) claim(id, config int, set slots.Set) {
	for i := range m.owner {
		switch {
		case set>>i&1 == 0:
		case m.owner[i] == id:
			m.held[i] = max(m.held[i], config)
		case m.owner[i] == 0 || m.held[i] < config:
			m.owner[i], m.held[i] = id, config
		}
	}
}

func (m *model) drop(id int, keep slots.Set) {
	for i := range m.owner {
		if m.owner[i] == id && keep>>i&1 == 0 {
			m.owner[i], m.held[i] = 0, 0
		}
	}
}

func (m *model) takeOver(id, config int, set slots.Set) {
	had := m.has(m.id)
	m.claim(id, config, set)
	if had != 0 && m.has(m.id) == 0 {
		m.master, m.plan = id, -1
	}
}

// add takes somebody up.
func (m *model) add(id int) api.Errno {
	end, banned := m.bans[id]
	switch {
	case id < 1 || id > 1<<32:
		return api.ErrForm
	case id == m.id:
		return api.ErrSelf
	case slices.Contains(m.ids(), id):
		return api.ErrKnown
	case banned && end >= m.now:
		return api.ErrBanned
	case len(m.members) >= 15:
		return api.ErrFull
	}
	delete(m.bans, id)
	m.members[id] = roster.Member{ID: id, FailAt: -1}
	m.met[id] = m.now
	return api.OK
}

func (m *model) header(kind int) wire.Packet {
	p := wire.Packet{Kind: kind, From: m.id, Epoch: m.epochs.Current, Config: m.epochs.Config, Master: m.master, Offset: m.offset}
	if m.master == 0 {
		p.Slots = m.has(m.id)
	}
	return p
}

func (m *model) send(to int, p wire.Packet) {
	if p.Kind <= 3 {
		others := slices.DeleteFunc(m.ids(), func(id int) bool { return id == to })
		for i := 0; i < 3 && i < len(others); i++ {
			e := wire.Entry{ID: others[(m.cursor+i)%len(others)]}
			if slices.Contains(m.late(), e.ID) {
				e.State = 1
			}
			if m.members[e.ID].FailAt != -1 {
				e.State = 2
			}
			p.Section = append(p.Section, e)
		}
		m.cursor += len(p.Section)
	}
	m.out = append(m.out, node.Out{To: to, Packet: p})
}

func (m *model) sendAll(p wire.Packet) {
	for _, id := range m.ids() {
		m.send(id, p)
	}
}

func (m *model) fails(id, at int) {
	o := m.members[id]
	o.FailAt = at
	m.members[id] = o
}

func (m *model) look(id int) {
	who := m.by(id)
	if m.serves() {
		who = append(who, m.id)
	}
	owners := m.owners()
	n := len(owners)
	who = slices.DeleteFunc(owners, func(id int) bool { return !slices.Contains(who, id) })
	if m.members[id].FailAt != -1 || !slices.Contains(m.late(), id) || 2*len(who) <= n {
		return
	}
	m.fails(id, m.now)
	p := m.header(4)
	p.About = id
	m.sendAll(p)
	m.events = append(m.events, node.Event{Kind: 2, By: m.id, About: id, Epoch: m.epochs.Current, Who: who})
}

// bump takes a new epoch, and tells whether there was one.
func (m *model) bump() bool {
	if m.epochs.Current == 1<<48 {
		return false
	}
	m.epochs.Current++
	m.epochs.Config = m.epochs.Current
	return true
}

func (m *model) deliver(b []byte) api.Errno {
	p, e := wire.Decode(b)
	if e != api.OK {
		return e
	}
	if p.From == m.id {
		return api.ErrSelf
	}
	if _, is := m.members[p.From]; !is {
		if p.Kind != 3 {
			return api.ErrNode
		}
		if e := m.add(p.From); e != api.OK {
			return e
		}
	}
	m.epochs.Current = max(m.epochs.Current, p.Epoch)
	o := m.members[p.From]
	o.Master, o.Config, o.Offset = p.Master, max(o.Config, p.Config), p.Offset
	m.members[p.From] = o
	if p.Master == 0 {
		m.ofMaster(p)
	} else {
		m.drop(p.From, 0)
		if m.master == p.From {
			m.master = p.Master
			if p.Master == m.id {
				m.master = 0
			}
		}
	}
	m.sections(p)
	m.kinds(p)
	return api.OK
}

func (m *model) ofMaster(p wire.Packet) {
	m.drop(p.From, p.Slots)
	m.takeOver(p.From, p.Config, p.Slots)
	newer := 0
	for i, o := range m.owner {
		if p.Slots>>i&1 == 1 && o != 0 && o != p.From && m.held[i] > p.Config && (newer == 0 || o < newer) {
			newer = o
		}
	}
	if newer != 0 {
		u := m.header(5)
		u.About, u.AboutSlots = newer, m.has(newer)
		for i, o := range m.owner {
			if o == newer {
				u.AboutConfig = max(u.AboutConfig, m.held[i])
			}
		}
		m.send(p.From, u)
	}
	if m.serves() && p.Slots != 0 && m.epochs.Config == p.Config && m.id < p.From && m.bump() {
		m.claim(m.id, m.epochs.Config, m.has(m.id))
	}
}

func (m *model) sections(p wire.Packet) {
	for _, e := range p.Section {
		_, is := m.members[e.ID]
		voter := p.Master == 0 && m.has(p.From) != 0
		switch {
		case e.ID == m.id:
		case !is:
			if e.State == 0 {
				m.add(e.ID)
			}
		case voter && e.State == 0:
			delete(m.reports, report{e.ID, p.From})
		case voter:
			m.reports[report{e.ID, p.From}] = m.now
			m.look(e.ID)
		}
	}
}

func (m *model) kinds(p wire.Packet) {
	about, is := m.members[p.About]
	switch p.Kind {
	case 1, 3:
		m.send(p.From, m.header(2))
	case 2:
		delete(m.waits, p.From)
		m.met[p.From] = max(m.met[p.From], m.now)
		if m.has(p.From) == 0 || m.now-m.members[p.From].FailAt > 2*m.timeout {
			m.fails(p.From, -1)
		}
	case 4:
		if is && about.FailAt == -1 {
			m.fails(p.About, m.now)
		}
	case 5:
		if is {
			about.Config = max(about.Config, p.AboutConfig)
			m.members[p.About] = about
			m.takeOver(p.About, p.AboutConfig, p.AboutSlots)
		}
	case 6:
		m.asked(p)
	case 7:
		m.acked(p)
	}
}

func (m *model) asked(p wire.Packet) {
	master, is := m.members[p.Master]
	at, gave := m.gave[p.Master]
	if !m.serves() || !is || master.FailAt == -1 || gave && m.now-at <= 2*m.timeout ||
		p.Epoch <= m.epochs.Vote || p.Epoch < m.epochs.Current {
		return
	}
	m.epochs.Vote, m.epochs.Current = p.Epoch, p.Epoch
	m.gave[p.Master] = m.now
	m.send(p.From, m.header(7))
	m.events = append(m.events, node.Event{Kind: 1, By: m.id, About: p.From, Epoch: p.Epoch})
}

func (m *model) acked(p wire.Packet) {
	s := m.stand
	if s.epoch == 0 || m.now > s.end || s.epoch != p.Epoch || !slices.Contains(s.voters, p.From) || slices.Contains(s.granted, p.From) {
		return
	}
	m.stand.granted = append(m.stand.granted, p.From)
	if 2*len(m.stand.granted) <= len(s.voters) {
		return
	}
	m.stand = vote{}
	if p.Epoch > m.epochs.Current || p.Epoch <= m.epochs.Config {
		return
	}
	m.epochs.Config = p.Epoch
	m.events = append(m.events, node.Event{Kind: 3, By: m.id, About: m.master, Epoch: p.Epoch, Who: s.voters})
	m.rise()
}

// rise takes its master's place.
func (m *model) rise() {
	set := m.has(m.master)
	m.master, m.plan = 0, -1
	m.claim(m.id, m.epochs.Config, set)
	m.sendAll(m.header(2))
}

func (m *model) tick(draw int) {
	for _, id := range m.ids() {
		if m.now-m.met[id] >= m.timeout/2 {
			m.met[id] = m.now
			if _, waits := m.waits[id]; !waits {
				m.waits[id] = m.now
			}
			m.send(id, m.header(1))
		}
	}
	for _, id := range m.late() {
		m.look(id)
	}
	for r, at := range m.reports {
		if m.now-at > 2*m.timeout {
			delete(m.reports, r)
		}
	}
	master, is := m.members[m.master]
	switch {
	case !is || master.FailAt == -1 || m.has(m.master) == 0 || m.now-master.FailAt > 10*m.timeout:
		m.plan = -1
	case m.plan == -1:
		m.plan = m.now + 500 + max(draw, 0)%500
		for _, o := range m.list() {
			if o.Master == m.master && (o.Offset > m.offset || o.Offset == m.offset && o.ID < m.id) {
				m.plan += 1000
			}
		}
	case m.plan <= m.now && (m.stand.epoch == 0 || m.now > m.stand.end) && m.epochs.Current < 1<<48:
		m.epochs.Current++
		m.stand = vote{epoch: m.epochs.Current, end: m.now + 2*m.timeout, voters: m.owners()}
		for _, id := range m.ids() {
			if slices.Contains(m.owners(), id) {
				m.send(id, m.header(6))
			}
		}
		m.plan = m.now + 4*m.timeout
	}
}

func (m *model) do(c node.Command) api.Errno {
	o, is := m.members[c.ID]
	mine := m.has(m.id)
	switch c.Kind {
	case 1:
		if e := m.add(c.ID); e != api.OK {
			return e
		}
		m.send(c.ID, m.header(3))
	case 2:
		return m.forget(c.ID, is)
	case 3:
		if m.master != 0 {
			return api.ErrRole
		}
		if c.Set&m.has(0) != c.Set {
			return api.ErrBusy
		}
		m.claim(m.id, m.epochs.Config, c.Set)
	case 4:
		if c.Set&mine != c.Set {
			return api.ErrSlot
		}
		m.drop(m.id, ^c.Set)
	case 5:
		switch {
		case !is:
			return api.ErrNode
		case o.Master != 0:
			return api.ErrRole
		case mine != 0:
			return api.ErrBusy
		}
		m.master, m.plan = c.ID, -1
	case 6, 7:
		if (c.Kind == 6) != (m.master != 0) || c.Kind == 7 && mine == 0 {
			return api.ErrRole
		}
		if !m.bump() {
			return api.ErrBig
		}
		if c.Kind == 7 {
			m.claim(m.id, m.epochs.Config, mine)
			return api.OK
		}
		m.stand = vote{}
		m.rise()
	case 8:
		if c.ID < 0 || c.ID > 1<<48 {
			return api.ErrForm
		}
		m.offset = c.ID
	case 9:
		m.clear()
	default:
		return api.ErrKind
	}
	return api.OK
}

func (m *model) forget(id int, is bool) api.Errno {
	switch {
	case id == m.master && id != 0:
		return api.ErrBusy
	case id < 1 || id > 1<<32:
		return api.ErrForm
	case id == m.id:
		return api.ErrSelf
	case !is:
		return api.ErrNode
	}
	delete(m.members, id)
	delete(m.waits, id)
	delete(m.met, id)
	m.bans[id] = m.now + 60000
	for r := range m.reports {
		if r.about == id || r.by == id {
			delete(m.reports, r)
		}
	}
	m.drop(id, 0)
	return api.OK
}

// call does what a call does, on a disk that has that error, if anything is saved.
func (m *model) call(now int, disk api.Errno, does func() api.Errno) node.Answer {
	if now < 0 || now > 1<<38 {
		return node.Answer{E: api.ErrForm}
	}
	m.now = max(m.now, now)
	was := m.state()
	m.out, m.events = nil, nil
	if e := does(); e != api.OK {
		return node.Answer{E: e}
	}
	if disk != api.OK && !isSame(m.state(), was) {
		return node.Answer{E: disk}
	}
	return node.Answer{Out: m.out, Events: m.events}
}
