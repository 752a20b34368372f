package exact

import "tesseract/api"

// What an operation needs of an operand: any value, a Boolean, a number, or a value of the kind of the other operand with this need.
const (
	anything = iota + 1
	boolean
	number
	alike
)

// joint stands for the common type of the operands that are numbers or alike, where an operation says the type of its result.
const joint = 0

// operation is what the table says of an operation.
type operation struct {
	count   int    // how many operands it has
	needs   [3]int // what it needs of each of them
	result  int    // the type of its result
	lenient bool   // whether run gets missing operands, too; otherwise the result is missing if one of them is
	run     func(l []api.Val) api.Val
}

// operations returns the table: each operation is at the place of its number, and those at other places have no operands.
func operations() [api.SIf + 1]operation {
	return [api.SIf + 1]operation{
		api.SNot:     {1, [3]int{boolean}, api.TBool, false, func(l []api.Val) api.Val { return truth(l[0].N == 0) }},
		api.SNeg:     {1, [3]int{number}, joint, false, func(l []api.Val) api.Val { return Value(Sub(rat(whole(0)), rat(l[0]))) }},
		api.SFloor:   {1, [3]int{number}, api.TInt, false, func(l []api.Val) api.Val { return Value(rat(l[0]).Floor()) }},
		api.SMissing: {1, [3]int{anything}, api.TBool, true, func(l []api.Val) api.Val { return truth(isMissing(l[0])) }},
		api.SReason:  {1, [3]int{anything}, api.TInt, true, reason},
		api.SAdd:     {2, [3]int{number, number}, joint, false, func(l []api.Val) api.Val { return Value(Add(rat(l[0]), rat(l[1]))) }},
		api.SSub:     {2, [3]int{number, number}, joint, false, func(l []api.Val) api.Val { return Value(Sub(rat(l[0]), rat(l[1]))) }},
		api.SMul:     {2, [3]int{number, number}, joint, false, func(l []api.Val) api.Val { return Value(Mul(rat(l[0]), rat(l[1]))) }},
		api.SDiv:     {2, [3]int{number, number}, api.TRat, false, quotient},
		api.SEq:      {2, [3]int{alike, alike}, api.TBool, false, func(l []api.Val) api.Val { return truth(Order(l[0], l[1]) == 0) }},
		api.SNe:      {2, [3]int{alike, alike}, api.TBool, false, func(l []api.Val) api.Val { return truth(Order(l[0], l[1]) != 0) }},
		api.SLt:      {2, [3]int{alike, alike}, api.TBool, false, func(l []api.Val) api.Val { return truth(Order(l[0], l[1]) < 0) }},
		api.SLe:      {2, [3]int{alike, alike}, api.TBool, false, func(l []api.Val) api.Val { return truth(Order(l[0], l[1]) <= 0) }},
		api.SGt:      {2, [3]int{alike, alike}, api.TBool, false, func(l []api.Val) api.Val { return truth(Order(l[0], l[1]) > 0) }},
		api.SGe:      {2, [3]int{alike, alike}, api.TBool, false, func(l []api.Val) api.Val { return truth(Order(l[0], l[1]) >= 0) }},
		api.SAnd:     {2, [3]int{boolean, boolean}, api.TBool, true, func(l []api.Val) api.Val { return decided(l, false) }},
		api.SOr:      {2, [3]int{boolean, boolean}, api.TBool, true, func(l []api.Val) api.Val { return decided(l, true) }},
		api.SElse:    {2, [3]int{alike, alike}, joint, true, func(l []api.Val) api.Val { return chosen(isMissing(l[0]), l[1], l[0]) }},
		api.SIf:      {3, [3]int{boolean, alike, alike}, joint, true, conditional},
	}
}

// operationOf returns the operation with this number, if there is one with this number of operands.
func operationOf(op, count int) (operation, bool) {
	table := operations()
	if op < 0 || op >= len(table) || count == 0 || table[op].count != count {
		return operation{}, false
	}
	return table[op], true
}

// isMissing reports whether a value is missing.
func isMissing(v api.Val) bool { return v.Kind == api.KMissing }

// chosen returns yes if first holds, and otherwise no.
func chosen(first bool, yes, no api.Val) api.Val {
	if first {
		return yes
	}
	return no
}

// reason is SReason.
func reason(l []api.Val) api.Val {
	if isMissing(l[0]) {
		return whole(l[0].N)
	}
	return whole(0)
}

// quotient is SDiv for numbers.
func quotient(l []api.Val) api.Val {
	q, e := Quo(rat(l[0]), rat(l[1]))
	if e != api.OK {
		return missing(api.DivZero)
	}
	return Value(q)
}

// decided is SAnd and SOr: one operand that is this Boolean decides the result, and otherwise one that is missing does.
func decided(l []api.Val, by bool) api.Val {
	if l[0] == truth(by) || l[1] == truth(by) {
		return truth(by)
	}
	return chosen(isMissing(l[0]), l[0], l[1])
}

// conditional is SIf.
func conditional(l []api.Val) api.Val {
	if isMissing(l[0]) {
		return l[0]
	}
	return chosen(l[0].N == 1, l[1], l[2])
}

// Do returns the result of an operation for some values.
func Do(op int, l []api.Val) (api.Val, api.Errno) {
	o, ok := operationOf(op, len(l))
	if !ok {
		return api.Val{}, api.ErrArg
	}
	for _, v := range l {
		if !validValue(v) {
			return api.Val{}, api.ErrArg
		}
	}
	if !o.suits(l) {
		return api.Val{}, api.ErrType
	}
	if !o.lenient {
		for _, v := range l {
			if isMissing(v) {
				return v, api.OK
			}
		}
	}
	return o.run(l), api.OK
}

// suits reports whether the values are of the kinds that the operation needs. A missing one always is.
func (o operation) suits(l []api.Val) bool {
	shared := api.KMissing
	for k, v := range l {
		if isMissing(v) {
			continue
		}
		switch o.needs[k] {
		case boolean:
			if v.Kind != api.KBool {
				return false
			}
		case number:
			if v.Kind != api.KNum {
				return false
			}
		case alike:
			if shared != api.KMissing && v.Kind != shared {
				return false
			}
			shared = v.Kind
		}
	}
	return true
}

// isType reports whether typ is a type.
func isType(typ int) bool { return typ >= api.TBool && typ <= api.TText }

// isNumeric reports whether typ is a type of numbers.
func isNumeric(typ int) bool { return typ == api.TInt || typ == api.TRat }

// Type returns the type of the result of an operation for operands of some types.
func Type(op int, l []int) (int, api.Errno) {
	o, ok := operationOf(op, len(l))
	if !ok {
		return 0, api.ErrArg
	}
	for _, typ := range l {
		if !isType(typ) {
			return 0, api.ErrArg
		}
	}
	shared, ok := o.sharedType(l)
	if !ok {
		return 0, api.ErrType
	}
	if o.result == joint {
		return shared, api.OK
	}
	return o.result, api.OK
}

// sharedType returns the common type of the operands that are numbers or alike (0 if there are none), and whether all types are as needed.
func (o operation) sharedType(l []int) (int, bool) {
	shared := 0
	for k, typ := range l {
		switch o.needs[k] {
		case boolean:
			if typ != api.TBool {
				return 0, false
			}
		case number:
			if !isNumeric(typ) {
				return 0, false
			}
			shared = commonType(shared, typ)
		case alike:
			if shared = commonType(shared, typ); shared == 0 {
				return 0, false
			}
		}
	}
	return shared, true
}

// commonType returns the common type of two types, b for an a that is 0, and 0 if there is none.
func commonType(a, b int) int {
	switch {
	case a == 0 || a == b:
		return b
	case isNumeric(a) && isNumeric(b):
		return api.TRat
	}
	return 0
}
