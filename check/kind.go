package check

import "sluice/api"

// kind tells instructions apart by what has to be checked of them, and by where they go on.
type kind int

const (
	unknown    kind = iota
	plain           // goes on with the next one, and no field of it can be wrong
	jump            // passes over K
	test            // passes over Jt or Jf
	loadRecord      // its K is a place in the record
	loadCell
	storeCell
	divideByK
	shiftByK
	ending
)

func kindOf(code uint16) kind {
	switch code {
	case api.LoadK, api.LoadXK, api.LoadLen, api.LoadXLen, api.ToX, api.FromX, api.Neg,
		api.Add, api.Sub, api.Mul, api.Or, api.And, api.Xor,
		api.Add + api.ByX, api.Sub + api.ByX, api.Mul + api.ByX, api.Div + api.ByX, api.Mod + api.ByX,
		api.Or + api.ByX, api.And + api.ByX, api.Xor + api.ByX, api.Shl + api.ByX, api.Shr + api.ByX:
		return plain
	case api.Jump:
		return jump
	case api.IfEqual, api.IfMore, api.IfLeast, api.IfBits,
		api.IfEqual + api.ByX, api.IfMore + api.ByX, api.IfLeast + api.ByX, api.IfBits + api.ByX:
		return test
	case api.LoadAt:
		return loadRecord
	case api.LoadCell, api.LoadX:
		return loadCell
	case api.Store, api.StoreX:
		return storeCell
	case api.Div, api.Mod:
		return divideByK
	case api.Shl, api.Shr:
		return shiftByK
	case api.RetK, api.RetA:
		return ending
	}
	return unknown
}
