package gate

import (
	"tally/api"
	"tally/text"
)

// mayBe tells whether a request may be called, with so many clients.
func mayBe(r api.Request, clients int) bool {
	holds, there := rules()[r.Op]
	return there && r.Client >= 0 && r.Client < clients && holds(r)
}

// rules tells by its Op what of a request must hold; of what is not sent nothing must.
func rules() map[int]func(r api.Request) bool {
	return map[int]func(r api.Request) bool{
		api.CallSubmit:  func(r api.Request) bool { return numbered(r) && named(r) && payable(r) },
		api.CallBalance: named,
		api.CallStatus:  func(r api.Request) bool { return numbered(r) && named(r) },
	}
}

func numbered(r api.Request) bool { return r.Number >= 1 && r.Number <= api.MaxNumber }

func named(r api.Request) bool { return text.Check(r.Name) == api.OK }

func payable(r api.Request) bool {
	return text.Check(r.Other) == api.OK && r.Amount <= api.MaxSupply
}
