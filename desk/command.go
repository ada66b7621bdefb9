package desk

import (
	"strconv"

	"scarab/api"
)

// desk is what lies on it: a program, if one was laid there, and a budget.
type desk struct {
	prog   api.Prog
	laid   bool
	budget api.Budget
}

// row is what all lines with the same first word have in common.
type row struct {
	form  string                     // the kinds of the words behind it: see read
	bare  bool                       // whether it does without a program
	lines bool                       // whether program lines belong to it
	does  func(*desk, args) []string // does it, and tells the words of a line
}

// rows are all commands by their first words.
func rows() map[string]row {
	return map[string]row{
		"program": {bare: true, lines: true, does: (*desk).program},
		"bytes":   {form: "HEX", bare: true, does: (*desk).bytes},
		"budget":  {form: "N N N", bare: true, does: (*desk).setBudget},
		"text":    {does: (*desk).text},
		"code":    {does: (*desk).code},
		"sum":     {does: (*desk).sum},
		"idle":    {does: (*desk).idle},
		"longest": {form: "N N", does: (*desk).longest},
		"start":   {does: (*desk).start},
		"run":     {form: "PICK..", does: (*desk).run},
		"end":     {form: "PICK..", does: (*desk).end},
		"ready":   {form: "PICK..", does: (*desk).ready},
		"choose":  {form: "N..", does: (*desk).choose},
		"robin":   {does: (*desk).robin},
		"order":   {form: "PICK..", does: (*desk).order},
		"form":    {form: "PICK..", does: (*desk).form},
		"race":    {form: "PICK..", does: (*desk).race},
		"shows":   {form: "PICK..", does: (*desk).shows},
		"locks":   {form: "PICK..", does: (*desk).locks},
		"all":     {form: "MODE", does: (*desk).all},
		"classes": {does: (*desk).classes},
		"graph":   {form: "N", does: (*desk).graph},
		"paths":   {form: "N", does: (*desk).paths},
		"bound":   {form: "N", does: (*desk).bound},
		"sweep":   {form: "N N", does: (*desk).sweep},
		"guide":   {form: "PICK..", does: (*desk).guide},
		"source":  {form: "PICK..", does: (*desk).source},
		"persist": {form: "PICK..", does: (*desk).persist},
		"report":  {form: "MODE", does: (*desk).report},
		"shrink":  {form: "MODE", does: (*desk).shrink},
		"witness": {form: "MODE N", does: (*desk).witness},
		"replay":  {form: "HEX", does: (*desk).replay},
		"linear":  {form: "KIND PICK..", does: (*desk).linear},
		"check":   {form: "MODE", does: (*desk).check},
	}
}

// do does a command, and tells the words of its line; or the error with which it gave up.
func (d *desk) do(c command) (told []string) {
	defer func() {
		switch x := recover().(type) {
		case nil:
		case failure:
			told = x.told()
		default:
			panic(x) // none of a command's: it would hide a fault of the program
		}
	}()
	if !c.bare && !d.laid {
		giveUp(api.ErrNothing)
	}
	return c.does(d, c.args)
}

// failure is what a command gives up with: an error, and the place that is told beside it, if one is.
type failure struct {
	is    api.Errno
	place []int
}

// told are the words of a failure's line.
func (f failure) told() []string { return listed(f.is.Error(), f.place, strconv.Itoa) }

// giveUp gives the command up, if there is an error.
func giveUp(e api.Errno, place ...int) {
	if e != api.OK {
		panic(failure{e, place})
	}
}

// must is what a call answers, unless it tells an error.
func must[T any](x T, e api.Errno) T {
	giveUp(e)
	return x
}

// mustBoth are the two things that a call answers, unless it tells an error.
func mustBoth[T, U any](x T, y U, e api.Errno) (T, U) {
	giveUp(e)
	return x, y
}

// mustAt is what a call answers, unless it tells an error, and its place.
func mustAt[T any](x T, e api.Errno, at int) T {
	giveUp(e, at)
	return x
}
