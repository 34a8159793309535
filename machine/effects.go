package machine

import "sluice/api"

// effect is what an instruction does to a machine.
type effect func(*machine, api.Insn)

// lastCode: the highest code that there is.
const lastCode = api.Xor + api.ByX

// effects is the table of what instructions do, by their codes.
func effects() [lastCode + 1]effect {
	return [lastCode + 1]effect{
		api.LoadK:    (*machine).loadK,
		api.LoadXK:   (*machine).loadXK,
		api.LoadAt:   (*machine).loadAt,
		api.LoadCell: (*machine).loadCell,
		api.LoadX:    (*machine).loadX,
		api.LoadLen:  (*machine).loadLen,
		api.LoadXLen: (*machine).loadXLen,
		api.Store:    (*machine).store,
		api.StoreX:   (*machine).storeX,
		api.ToX:      (*machine).toX,
		api.FromX:    (*machine).fromX,

		api.Add: (*machine).add, api.Add + api.ByX: (*machine).add,
		api.Sub: (*machine).sub, api.Sub + api.ByX: (*machine).sub,
		api.Mul: (*machine).mul, api.Mul + api.ByX: (*machine).mul,
		api.Div: (*machine).div, api.Div + api.ByX: (*machine).div,
		api.Or: (*machine).or, api.Or + api.ByX: (*machine).or,
		api.And: (*machine).and, api.And + api.ByX: (*machine).and,
		api.Shl: (*machine).shl, api.Shl + api.ByX: (*machine).shl,
		api.Shr: (*machine).shr, api.Shr + api.ByX: (*machine).shr,
		api.Mod: (*machine).mod, api.Mod + api.ByX: (*machine).mod,
		api.Xor: (*machine).xor, api.Xor + api.ByX: (*machine).xor,
		api.Neg: (*machine).neg,

		api.Jump:    (*machine).jump,
		api.IfEqual: (*machine).ifEqual, api.IfEqual + api.ByX: (*machine).ifEqual,
		api.IfMore: (*machine).ifMore, api.IfMore + api.ByX: (*machine).ifMore,
		api.IfLeast: (*machine).ifLeast, api.IfLeast + api.ByX: (*machine).ifLeast,
		api.IfBits: (*machine).ifBits, api.IfBits + api.ByX: (*machine).ifBits,
		api.RetK: (*machine).retK,
		api.RetA: (*machine).retA,
	}
}
