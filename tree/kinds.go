package tree

import (
	"prompter/api"
	"prompter/token"
	"prompter/value"
)

// many is the most parts that a twig of any number of them may have.
const many = api.MaxTree

// maxText is how many bytes an OText may have: as many as a value of one text.
const maxText = api.MaxSize - 1

// kind is what a twig of one Op may be.
type kind struct {
	text        func(s string) bool
	least, most int                                  // how many parts
	part        func(op byte, place, parts int) bool // whether such a twig may stand at that place, of so many
}

// kinds are what twigs may be, by their Op.
type kinds map[byte]kind

// table is what all twigs may be.
func table() kinds {
	leaf := kind{text: isEmpty}
	name := kind{text: isOwn}
	one := kind{isEmpty, 1, 1, ofExpressions}
	two := kind{isEmpty, 2, 2, ofExpressions}
	asked := kind{isOwn, 0, many, ofExpressions}
	all := kinds{
		api.OFlow:    {isOwn, 1, many, ofFlow},
		api.OParam:   name,
		api.OBlock:   {isEmpty, 0, many, ofStatements},
		api.OLet:     {isOwn, 1, 1, ofExpressions},
		api.OSet:     {isOwn, 1, 1, ofExpressions},
		api.OIf:      {isEmpty, 2, 3, ofCondition},
		api.OWhile:   {isEmpty, 2, 2, ofCondition},
		api.OReturn:  one,
		api.OFail:    one,
		api.OSleep:   one,
		api.ODrop:    one,
		api.ONone:    leaf,
		api.OTrue:    leaf,
		api.OFalse:   leaf,
		api.OInt:     leaf,
		api.OText:    {text: isShort},
		api.OList:    {isEmpty, 0, many, ofExpressions},
		api.OName:    name,
		api.OCall:    asked,
		api.OChild:   asked,
		api.OTimer:   one,
		api.OFork:    {isEmpty, 1, 1, ofFork},
		api.OAwait:   one,
		api.OSettle:  one,
		api.OTake:    name,
		api.OVersion: leaf,
	}
	for op := byte(api.OOr); op <= api.OAt; op++ {
		all[op] = two
	}
	for op := byte(api.ONot); op <= api.OConj; op++ {
		all[op] = one
	}
	return all
}

// allows tells whether x is what its kind may be, whatever stands behind it.
func (k kind) allows(x api.Twig) bool {
	number := x.Int == 0 || x.Op == api.OInt && x.Int > 0
	return number && k.least <= x.Kids && x.Kids <= k.most && k.text(x.Text)
}

// isEmpty tells whether s is empty.
func isEmpty(s string) bool {
	return s == ""
}

// isOwn tells whether s is a word of one's own.
func isOwn(s string) bool {
	return value.Name(s) && !token.Keyword(s)
}

// isShort tells whether s is short enough for an OText.
func isShort(s string) bool {
	return len(s) <= maxText
}

// ofFlow tells whether op may stand at that place of a flow: parameters, and behind them a block.
func ofFlow(op byte, place, parts int) bool {
	if place < parts-1 {
		return op == api.OParam
	}
	return op == api.OBlock
}

// ofCondition tells whether op may stand at that place of an if or a while: a condition, and behind it blocks.
func ofCondition(op byte, place, _ int) bool {
	if place == 0 {
		return Expression(op)
	}
	return op == api.OBlock
}

// ofExpressions tells whether op may stand where all parts are expressions.
func ofExpressions(op byte, _, _ int) bool {
	return Expression(op)
}

// ofStatements tells whether op may stand where all parts are statements.
func ofStatements(op byte, _, _ int) bool {
	return Statement(op)
}

// ofFork tells whether op may stand in a fork.
func ofFork(op byte, _, _ int) bool {
	return op == api.OBlock
}
