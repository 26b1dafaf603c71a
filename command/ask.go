package command

import (
	"cmp"
	"slices"
	"strconv"
	"strings"

	"grapevine/api"
	"grapevine/node"
	"grapevine/quorum"
	"grapevine/slot"
)

// nobody is the owner of a slot that nobody has.
const nobody = 0

// never is the FailAt of who isn't held to have failed.
const never = -1

// Ask answers a question.
func Ask(n *node.Node, l Line) (string, api.Errno) {
	switch l.Kind {
	case kindKeySlot:
		return lineOf(strconv.Itoa(slot.New().Slot(l.Key))), api.OK
	case kindMyID:
		return lineOf(strconv.Itoa(n.State().ID)), api.OK
	case kindNodes:
		return nodes(n), api.OK
	case kindSlots:
		return owners(n), api.OK
	case kindInfo:
		return info(n), api.OK
	case kindCount:
		return lineOf(strconv.Itoa(len(n.Reports(l.ID)))), api.OK
	}
	return "", api.ErrWord
}

// lineOf is a line of an answer.
func lineOf(words ...string) string { return strings.Join(words, " ") + "\n" }

// known is what is told of the node, or of a member.
type known struct {
	id             int
	health         string
	master, config int
}

// nodes tells of the node and all its members.
func nodes(n *node.Node) string {
	s, late := n.State(), n.Late()
	list := []known{{s.ID, "myself", s.Master, s.Epochs.Config}}
	for _, m := range n.Members() {
		list = append(list, known{m.ID, healthOf(m.FailAt, slices.Contains(late, m.ID)), m.Master, m.Config})
	}
	slices.SortFunc(list, func(a, b known) int { return cmp.Compare(a.id, b.id) })
	text := ""
	for _, k := range list {
		text += lineOf(strconv.Itoa(k.id), k.health, strconv.Itoa(k.master), strconv.Itoa(k.config), s.Table.Of(k.id).Text())
	}
	return text
}

// healthOf is how a member is: to be held to have failed counts for more than not to answer.
func healthOf(failAt int, late bool) string {
	switch {
	case failAt != never:
		return "failed"
	case late:
		return "late"
	}
	return "well"
}

// owners tells who has which slots.
func owners(n *node.Node) string {
	table, text := n.State().Table, ""
	for _, id := range table.Owners() {
		text += lineOf(strconv.Itoa(id), table.Of(id).Text())
	}
	return text
}

// info tells how all is.
func info(n *node.Node) string {
	s := n.State()
	servers, free := s.Table.Owners(), len(s.Table.Of(nobody).List())
	state := "fail"
	if free == 0 && quorum.Majority(servers, standing(n)) {
		state = "ok"
	}
	return lineOf("state", state) +
		lineOf("assigned", strconv.Itoa(api.Slots-free)) +
		lineOf("known", strconv.Itoa(len(n.Members())+1)) +
		lineOf("servers", strconv.Itoa(len(servers))) +
		lineOf("epoch", strconv.Itoa(s.Epochs.Current))
}

// standing are the node, and the members that aren't held to have failed.
func standing(n *node.Node) []int {
	list := []int{n.State().ID}
	for _, m := range n.Members() {
		if m.FailAt == never {
			list = append(list, m.ID)
		}
	}
	return list
}
