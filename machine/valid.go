package machine

import "groutwork/api"

func isSymbol(m api.Machine, s int) bool { return 0 <= s && s < m.Symbols }

func isState(m api.Machine, q int) bool { return 0 <= q && q < m.States }

// stops reports whether a machine with this action has stopped: it does nothing else then.
func stops(m api.Machine, a api.Action) bool { return a.Next == m.States }

func isAction(m api.Machine, a api.Action) bool {
	if stops(m, a) {
		return a.Write == 0 && a.Move == 0
	}
	return isSymbol(m, a.Write) && (a.Move == api.West || a.Move == api.East) && isState(m, a.Next)
}

func isConfig(m api.Machine, c api.Config) bool {
	if !isState(m, c.State) || len(c.Cells) > api.MaxTape || c.At < 0 || c.At >= len(c.Cells) {
		return false
	}
	for _, s := range c.Cells {
		if !isSymbol(m, s) {
			return false
		}
	}
	return true
}
