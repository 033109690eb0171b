package tests

import (
	"fmt"
	"math/rand/v2"
	"regexp"
	"slices"
	"strconv"
	"strings"
	"testing"

	"loop.example/shopsthatmake/impl"
)

// asked is a line of a desk, and its answer.
type asked struct {
	line, answer string
}

// deskForms are for each first word how its lines are written, if their numbers
// may be valid: none of these has more than two digits.
type deskForms map[string]*regexp.Regexp

// newForms returns the forms of all lines.
func newForms() deskForms {
	const number = `(0|[1-9][0-9]?)`
	const row = `(` + number + `(?:,` + number + `)*)`
	const rows = `(?<rows>` + row + `(?:/` + row + `)*)`
	forms := deskForms{}
	for word, behind := range map[string]string{
		"two":   rows,
		"kept":  rows,
		"lots":  `(?<one>` + number + `) (?<other>` + number + `) (?<rows>` + row + `)`,
		"rolls": `(?<one>` + number + `) (?<rows>` + row + `)`,
		"stock": `(?<one>` + number + `) (?<other>` + number + `) (?<rows>` + row + `)`,
	} {
		forms[word] = regexp.MustCompile(`\A` + word + ` ` + behind + `\z`)
	}
	return forms
}

// answer returns the answer to a line, by its form, and without the functions
// that are asked.
func (f deskForms) answer(line string) string {
	word, _, _ := strings.Cut(line, " ")
	form := f[word]
	if form == nil {
		return "what"
	}
	found := form.FindStringSubmatch(line)
	if found == nil {
		return "wrong"
	}
	text := map[string]string{}
	for i, name := range form.SubexpNames() {
		text[name] = found[i]
	}
	one, _ := strconv.Atoi(text["one"])
	other, _ := strconv.Atoi(text["other"])
	rows := rowsIn(text["rows"])
	switch word {
	case "two":
		return twoAnswer(rows)
	case "kept":
		return keptAnswer(rows)
	case "lots":
		return lotsAnswer(rows[0], one, other)
	case "rolls":
		return rollsAnswer(rows[0], one)
	}
	return stockAnswer(rows[0], one, other)
}

// rowsIn returns the rows that are written in a text.
func rowsIn(text string) [][]int {
	var rows [][]int
	for _, part := range strings.Split(text, "/") {
		var row []int
		for _, number := range strings.Split(part, ",") {
			n, _ := strconv.Atoi(number)
			row = append(row, n)
		}
		rows = append(rows, row)
	}
	return rows
}

// commas returns the numbers with a comma between two of them.
func commas(list []int) string {
	return strings.ReplaceAll(strings.Trim(fmt.Sprint(list), "[]"), " ", ",")
}

// slashes returns the rows with a / between two of them.
func slashes(rows [][]int) string {
	var texts []string
	for _, row := range rows {
		texts = append(texts, commas(row))
	}
	return strings.Join(texts, "/")
}

// within reports whether there are at most so many numbers, each in
// least..greatest.
func within(list []int, most, least, greatest int) bool {
	return len(list) <= most && slices.Min(list) >= least && slices.Max(list) <= greatest
}

// rowsWithin reports whether there are at most MaxJobs rows, each with as many
// numbers as there are greatest ones, each in 0 up to that.
func rowsWithin(rows [][]int, greatest ...int) bool {
	return len(rows) <= impl.MaxJobs && !slices.ContainsFunc(rows, func(row []int) bool {
		return len(row) != len(greatest) || slices.ContainsFunc(inOrder(len(row)), func(i int) bool {
			return !within(row[i:i+1], 1, 0, greatest[i])
		})
	})
}

// twoAnswer returns the answer to the jobs of a line of two.
func twoAnswer(jobs [][]int) string {
	if !rowsWithin(jobs, impl.MaxTime, impl.MaxTime) {
		return "wrong"
	}
	order := ruleByTimes(jobs)
	return fmt.Sprint(commas(order), " ", spanBySteps(jobs, order))
}

// keptAnswer returns the answer to the jobs of a line of kept.
func keptAnswer(jobs [][]int) string {
	if !rowsWithin(jobs, impl.MaxTime, impl.MaxTime, impl.MaxDue) || slices.Min(column(jobs, 0)) < 1 {
		return "wrong"
	}
	return commas(keptBySteps(jobs))
}

// lotsAnswer returns the answer to the days and costs of a line of lots.
func lotsAnswer(days []int, set, hold int) string {
	if !within(days, impl.MaxDays, 0, impl.MaxWant) || !within([]int{set, hold}, 2, 0, impl.MaxCost) {
		return "wrong"
	}
	least, made := bestByLengths(days, set, hold)
	return fmt.Sprint(commas(made), " ", least)
}

// rollsAnswer returns the answer to the cuts of a line of rolls.
func rollsAnswer(list []int, roll int) string {
	if !within(list, impl.MaxCuts, 1, roll) || roll > impl.MaxRoll {
		return "wrong"
	}
	c := cutList{list, roll}
	return fmt.Sprint(c.fewest(), " ", commas(c.byKind("long")))
}

// stockAnswer returns the answer to the weights and costs of a line of stock.
func stockAnswer(w []int, over, under int) string {
	if !within(w, impl.MaxValues, 0, impl.MaxTime) || sum(w) == 0 || !within([]int{over, under}, 2, 0, impl.MaxCost) {
		return "wrong"
	}
	costs := costsByThings(w, over, under)
	return strconv.Itoa(slices.Index(costs, slices.Min(costs)))
}

// twoLine returns the line of two with these jobs.
func twoLine(jobs [][]int) string {
	return "two " + slashes(jobs)
}

// keptLine returns the line of kept with these jobs.
func keptLine(jobs [][]int) string {
	return "kept " + slashes(jobs)
}

// lotsLine returns the line of lots with these days and costs.
func lotsLine(days []int, set, hold int) string {
	return fmt.Sprint("lots ", set, " ", hold, " ", commas(days))
}

// rollsLine returns the line of rolls with these cuts.
func rollsLine(list []int, roll int) string {
	return fmt.Sprint("rolls ", roll, " ", commas(list))
}

// stockLine returns the line of stock with these weights and costs.
func stockLine(w []int, over, under int) string {
	return fmt.Sprint("stock ", over, " ", under, " ", commas(w))
}

// someAsked returns lines of each kind with their answers, without any number
// that is not valid.
func someAsked() []asked {
	var list []asked
	for _, jobs := range someTwos()[1:] {
		list = append(list, asked{twoLine(jobs), twoAnswer(jobs)})
	}
	for _, jobs := range someOnes()[1:] {
		list = append(list, asked{keptLine(jobs), keptAnswer(jobs)})
	}
	for i, days := range someWants() {
		if pair := somePairs()[i%len(somePairs())]; len(days) > 0 {
			list = append(list, asked{lotsLine(days, pair.set, pair.hold), lotsAnswer(days, pair.set, pair.hold)})
		}
	}
	for i, c := range someCuts() {
		if i%7 == 0 && len(c.list) > 0 {
			list = append(list, asked{rollsLine(c.list, c.roll), rollsAnswer(c.list, c.roll)})
		}
	}
	for i, w := range someChances() {
		costs := allLists(2, stockCosts...)
		pair := costs[i%len(costs)]
		list = append(list, asked{stockLine(w, pair[0], pair[1]), stockAnswer(w, pair[0], pair[1])})
	}
	return list
}

// goodLines returns lines of each kind, to be made nearly right: with one
// thing, and with more, of numbers with one digit and with two.
func goodLines() []asked {
	return []asked{
		{"two 3,2", "0 5"},
		{"two 3,2/1,4/2,2", "1,0,2 9"},
		{"kept 2,0,10", "0"},
		{"kept 3,1,4/2,4,9/4,2,15", "0,1,2"},
		{"lots 5 1 3", "3 5"},
		{"lots 5 1 3,0,4,2", "3,0,6,0 12"},
		{"lots 10 0 12,10", "22,0 10"},
		{"rolls 3 2", "1 0"},
		{"rolls 10 4,4,6,6", "2 0,1,0,1"},
		{"stock 1 3 2", "0"},
		{"stock 1 3 1,2,1", "1"},
		{"stock 10 20 0,0,5", "2"},
	}
}

// expectAnswers fails the test if the answers to the lines are not these, one
// after the other.
func expectAnswers(t *testing.T, list ...asked) {
	t.Helper()
	var lines []string
	want := ""
	for _, one := range list {
		lines = append(lines, one.line)
		want += one.answer + "\n"
	}
	if got := impl.RunDesk(lines); got != want {
		t.Errorf("RunDesk(%q) = %q, want %q", lines, got, want)
	}
}

// expectEach fails the test if the answer to any of the lines is not this one,
// each line alone, between others, and all of them, desk by desk.
func expectEach(t *testing.T, list []asked) {
	t.Helper()
	for _, one := range list {
		expectAnswers(t, one)
		expectAnswers(t, asked{"two 3,2", "0 5"}, one, one, asked{"lots 1", "wrong"}, one, asked{"", "what"})
	}
	for some := range slices.Chunk(list, impl.MaxDesk) {
		expectAnswers(t, some...)
	}
}

// answeredBy returns the lines, all of them answered so.
func answeredBy(answer string, lines ...string) []asked {
	var list []asked
	for _, line := range lines {
		list = append(list, asked{line, answer})
	}
	return list
}

func TestDeskLinesOfEachKind(t *testing.T) {
	expectEach(t, goodLines())
	expectEach(t, []asked{
		{"two 2,1/1,2/3,3/0,5/5,0", "3,1,2,0,4 11"},
		{"two 0,0/0,1", "1,0 1"},
		{"two 4,4/1,1/4,4", "0,2,1 13"},
		{"kept 3,1,4/2,4,9/4,2,5", "0,1"},
		{"kept 1,0,9/1,0,3/1,0,6", "1,2,0"},
		{"kept 4,9,4/3,9,5/2,9,6", "1,2"},
		{"lots 0 1 3,2,0,1", "3,2,0,1 0"},
		{"lots 4 1 2,2,2,2", "4,0,4,0 12"},
		{"lots 3 1 0,0,5,3", "0,0,8,0 6"},
		{"rolls 10 3,7,2,5,8,5", "3 1,1,0,2,0,2"},
		{"rolls 7 3,3,2,2,2,2", "2 0,0,1,1,1,2"},
		{"stock 3 1 1,1,1,1", "0"},
		{"stock 1 1 1,1,1,1", "1"},
		{"stock 1 4 1,1,1,1", "3"},
	})
}

func TestDeskLinesOfAllKinds(t *testing.T) {
	expectAnswers(t)
	expectAnswers(t, goodLines()...)
	expectAnswers(t, asked{"two 3,2/1,4/2,2", "1,0,2 9"}, asked{"kept 3,1,4/2,4,9/4,2,5", "0,1"}, asked{"lots 5 1 3,0,4,2", "3,0,6,0 12"},
		asked{"rolls 10 4,4,6,6", "2 0,1,0,1"}, asked{"stock 1 3 1,2,1", "1"}, asked{"two 3,2/1", "wrong"}, asked{"walk 1", "what"},
		asked{"kept 2,1,1", ""}, asked{"", "what"}, asked{"stock 1 3 0", "wrong"}, asked{"two 3,2/1,4/2,2", "1,0,2 9"})
}

func TestDeskOfSoManyLines(t *testing.T) {
	if impl.MaxDesk != 20 || impl.RunDesk(nil) != "" || impl.RunDesk([]string{}) != "" {
		t.Errorf("MaxDesk = %d, and without lines %q", impl.MaxDesk, impl.RunDesk(nil))
	}
	for _, one := range append(goodLines(), asked{"two", "wrong"}, asked{"", "what"}, asked{"kept 2,1,1", ""}) {
		for n := range impl.MaxDesk + 1 {
			expectAnswers(t, slices.Repeat([]asked{one}, n)...)
		}
		for _, n := range []int{impl.MaxDesk + 1, impl.MaxDesk + 2, 2 * impl.MaxDesk, 100, 256, 1000} {
			if got := impl.RunDesk(slices.Repeat([]string{one.line}, n)); got != "" {
				t.Errorf("RunDesk of %d lines %q = %q", n, one.line, got)
			}
		}
	}
}

func TestDeskOfOneThing(t *testing.T) {
	expectEach(t, []asked{
		{"two 0,0", "0 0"},
		{"two 9,9", "0 18"},
		{"two 0,9", "0 9"},
		{"two 9,0", "0 9"},
		{"kept 1,0,0", ""},
		{"kept 1,0,1", "0"},
		{"kept 1,9,60", "0"},
		{"kept 9,0,8", ""},
		{"kept 9,9,60", "0"},
		{"lots 0 0 0", "0 0"},
		{"lots 30 30 0", "0 0"},
		{"lots 30 30 20", "20 30"},
		{"lots 0 30 20", "20 0"},
		{"lots 30 0 1", "1 30"},
		{"rolls 1 1", "1 0"},
		{"rolls 20 1", "1 0"},
		{"rolls 20 20", "1 0"},
		{"stock 0 0 1", "0"},
		{"stock 30 30 9", "0"},
		{"stock 0 30 1", "0"},
		{"stock 30 0 1", "0"},
	})
}

func TestDeskOfAsManyAsAreValid(t *testing.T) {
	expectEach(t, []asked{
		{"two 0,0/0,0/0,0/0,0/0,0/0,0/0,0/0,0", "0,1,2,3,4,5,6,7 0"},
		{"two 9,9/9,9/9,9/9,9/9,9/9,9/9,9/9,9", "0,1,2,3,4,5,6,7 81"},
		{"two 8,0/7,1/6,2/5,3/3,5/2,6/1,7/0,8", "7,6,5,4,3,2,1,0 32"},
		{"kept 9,9,60/9,9,60/9,9,60/9,9,60/9,9,60/9,9,60/9,9,60/9,9,60", "0,1,2,3,4,5"},
		{"kept 1,0,8/1,0,7/1,0,6/1,0,5/1,0,4/1,0,3/1,0,2/1,0,1", "7,6,5,4,3,2,1,0"},
		{"kept 1,0,0/1,0,0/1,0,0/1,0,0/1,0,0/1,0,0/1,0,0/1,0,0", ""},
		{"lots 0 0 0,0,0,0,0,0,0,0", "0,0,0,0,0,0,0,0 0"},
		{"lots 30 0 20,20,20,20,20,20,20,20", "160,0,0,0,0,0,0,0 30"},
		{"lots 30 30 20,20,20,20,20,20,20,20", "20,20,20,20,20,20,20,20 240"},
		{"lots 30 1 1,1,1,1,1,1,1,1", "8,0,0,0,0,0,0,0 58"},
		{"rolls 1 1,1,1,1,1,1,1", "7 0,1,2,3,4,5,6"},
		{"rolls 20 1,1,1,1,1,1,1", "1 0,0,0,0,0,0,0"},
		{"rolls 20 20,20,20,20,20,20,20", "7 0,1,2,3,4,5,6"},
		{"rolls 20 1,2,3,4,5,6,7", "2 1,0,1,1,0,0,0"},
		{"stock 30 30 9,9,9,9,9,9,9", "3"},
		{"stock 0 1 9,9,9,9,9,9,9", "6"},
		{"stock 1 0 9,9,9,9,9,9,9", "0"},
		{"stock 0 30 0,0,0,0,0,0,9", "6"},
		{"stock 1 30 1,0,0,0,0,0,0", "0"},
	})
}

func TestDeskOfOneMoreOrLess(t *testing.T) {
	expectEach(t, answeredBy("wrong",
		twoLine(paired(repeated(impl.MaxJobs+1, 0), repeated(impl.MaxJobs+1, 0))),
		twoLine(paired(repeated(impl.MaxJobs+1, 9), repeated(impl.MaxJobs+1, 9))),
		"two 10,0", "two 0,10", "two -1,0", "two 0,-1", "two 1,1/10,1", "two 1,1/1,-1", "two 10,1/1,1", "two 1,-1/1,1",
		keptLine(alike(impl.MaxJobs+1, 1, 0, 60)), keptLine(alike(impl.MaxJobs+1, 9, 9, 0)),
		"kept 0,0,0", "kept 10,0,60", "kept -1,0,0", "kept 1,-1,0", "kept 1,10,0", "kept 1,0,-1", "kept 1,0,61",
		"kept 1,1,1/0,1,1", "kept 1,1,61/1,1,1", "kept 1,1,1/1,1,1/1,10,1",
		lotsLine(repeated(impl.MaxDays+1, 0), 0, 0), lotsLine(repeated(impl.MaxDays+1, 20), 30, 30),
		"lots -1 0 0", "lots 31 0 0", "lots 0 -1 0", "lots 0 31 0", "lots 0 0 -1", "lots 0 0 21", "lots 31 31 20", "lots -1 -1 5",
		"lots 5 1 3,0,4,21", "lots 5 1 -1,0,4,2", "lots 5 1 3,21,4",
		rollsLine(repeated(impl.MaxCuts+1, 1), 1), rollsLine(repeated(impl.MaxCuts+1, 1), 20), rollsLine(repeated(impl.MaxCuts+1, 20), 20),
		"rolls 0 0", "rolls 0 1", "rolls 1 0", "rolls 1 2", "rolls 20 0", "rolls 20 21", "rolls 21 1", "rolls 21 21", "rolls -1 1", "rolls -1 -1",
		"rolls 1 -1", "rolls 5 6", "rolls 5 1,2,0", "rolls 5 6,1", "rolls 5 1,-1,2",
		stockLine(repeated(impl.MaxValues+1, 1), 1, 1), stockLine(append(repeated(impl.MaxValues, 1), 0), 1, 1),
		"stock 1 1 0", "stock 1 1 0,0,0,0,0,0,0", "stock 1 1 -1", "stock 1 1 10", "stock 1 1 1,-1", "stock 1 1 10,-1", "stock 1 1 0,1,10",
		"stock -1 0 1", "stock 31 0 1", "stock 0 -1 1", "stock 0 31 1", "stock 31 31 1", "stock -1 -1 1",
		// More than one of them at once.
		twoLine(paired(repeated(impl.MaxJobs+1, 10), repeated(impl.MaxJobs+1, -1))), "two 10,10", "two 10,-1", "two 10",
		keptLine(alike(impl.MaxJobs+1, 0, 10, 61)), "kept 0,10,61", "kept 10,-1,-1", "kept 0,10",
		lotsLine(repeated(impl.MaxDays+1, 21), 31, 31), "lots 31 0 21", "lots 0 31 21", "lots -1 0 -1", "lots 0 -1 3,21",
		rollsLine(repeated(impl.MaxCuts+1, 22), 21), "rolls 21 22", "rolls 21 0", "rolls 0 -1", "rolls -1 0",
		stockLine(repeated(impl.MaxValues+1, 10), 31, 31), "stock 31 0 0", "stock 0 31 10", "stock -1 0 0,0", "stock 0 -1 -1"))
}

func TestDeskOfNothingOnTime(t *testing.T) {
	list := answeredBy("", "kept 2,1,1", "kept 1,0,0", "kept 2,9,1/3,9,2/9,9,8", "kept 9,9,0/1,1,0", "kept 4,4,3/4,4,3/4,4,3")
	expectEach(t, list)
	expectAnswers(t, asked{"two 3,2", "0 5"}, list[0], list[1], asked{"kept", "wrong"}, list[2], asked{"", "what"})
}

func TestDeskOfWordsAlone(t *testing.T) {
	for _, word := range []string{"two", "kept", "lots", "rolls", "stock"} {
		upper := strings.ToUpper(word)
		expectEach(t, answeredBy("wrong", word, word+" ", word+"  ", word+"   ", word+"    ", word+" ,", word+" /", word+" -", word+" +",
			word+" \n", word+" \t", word+" \x00", word+" "+word, word+" a", word+" wrong", word+" 1", word+" 1 ", word+"  1"))
		expectEach(t, answeredBy("what", word[1:], word[:len(word)-1], word+"s", word+word, upper, upper[:1]+word[1:], upper+" 1,1",
			word+"x 1,1", word+"1,1", word+",1", word+"/1", word+"\t", word+"\n", word+"\r", word+"\x00", word+"\xff", word+"\v ",
			word+"\t1,1", word+"\n1,1", word+"\u00a01,1", " "+word, "\t"+word, "\n"+word, "\ufeff"+word+" 1,1", "'"+word+"' 1,1"))
	}
}

func TestDeskOfOtherWords(t *testing.T) {
	expectEach(t, answeredBy("what", "", " ", "  ", "\n", "\t", "\x00", "\xff\xfe", ",", "/", "0", "1", "-1", "1,2", "1,2/3,4", "1 2 3", "walk", "walk 1",
		"wrong", "what", "wrong 1", "bills 1", "nets 1", "lines 1 2 3", "one 1,2,3", "shop 0,1", "tokens 1", "samples 10 2 3 1", "cuts 10 4", "desk",
		"stocks 1 3 1,2,1", "roll 10 4", "lot 5 1 3", "keep 3,1,4", "tow 3,2", "three 3,2", "2 3,2", "\uff54wo 3,2", "tw\u043e 3,2", "due", "wait", "first", "long"))
	for _, good := range goodLines() {
		expectEach(t, answeredBy("what", " "+good.line, "  "+good.line, "\t"+good.line, "\n"+good.line, "\x00"+good.line, "x "+good.line,
			", "+good.line, strings.ToUpper(good.line), strings.ToUpper(good.line[:1])+good.line[1:], good.line[1:]))
		for _, other := range []string{"", "\t", "\n", "_", ",", "/", ": ", "s ", "\x00 ", "\t ", "\n "} {
			expectEach(t, answeredBy("what", strings.Replace(good.line, " ", other, 1)))
		}
	}
}

func TestDeskOfWordsOfAnotherKind(t *testing.T) {
	expectEach(t, []asked{
		{"kept 3,2", "wrong"},
		{"lots 3,2", "wrong"},
		{"rolls 3,2", "wrong"},
		{"stock 3,2", "wrong"},
		{"two 3,1,4/2,4,9", "wrong"},
		{"rolls 3,1,4/2,4,9", "wrong"},
		{"two 5 1 3,0,4,2", "wrong"},
		{"kept 5 1 3,0,4,2", "wrong"},
		{"rolls 5 1 3,0,4,2", "wrong"},
		{"stock 5 1 3,0,4,2", "0"},
		{"two 10 4,4,6,6", "wrong"},
		{"kept 10 4,4,6,6", "wrong"},
		{"lots 10 4,4,6,6", "wrong"},
		{"stock 10 4,4,6,6", "wrong"},
		{"lots 1 3 1,2,1", "1,2,1 3"},
		{"two 2,2", "0 4"},
		{"kept 2,2,2", "0"},
		{"lots 2 2 2", "2 2"},
		{"rolls 2 2", "1 0"},
		{"stock 2 2 2", "0"},
	})
}

// alteredAt returns the line with each of its numbers altered, one at a time.
func alteredAt(line string, alter func(number string) string) []string {
	var lines []string
	for _, at := range regexp.MustCompile(`[0-9]+`).FindAllStringIndex(line, -1) {
		lines = append(lines, line[:at[0]]+alter(line[at[0]:at[1]])+line[at[1]:])
	}
	return lines
}

// besideNumbers returns what makes a number none, or no valid one, if it stands
// ahead of it, and what does so behind it.
func besideNumbers() (ahead, behind []string) {
	ahead = []string{"0", "00", strings.Repeat("0", 20), "+", "-", "+-", "--", "-0", "a", ".", "0x", "0b", "0o", "_", "1_", "'", "(",
		",", "/", ",,", "//", " ", "  ", "\t", "\n", "\r", "\x00", "\xff", "\u00a0"}
	behind = []string{"-", "+", "a", "e0", ".0", ".", "_", "_1", "'", ")", ",", "/", ",,", "//", ",/", "/,", " ", "  ", "\t", "\n", "\r\n",
		"\x00", "\x80", "\u0301", ";", ":1", "|1", "\\"}
	return ahead, behind
}

// notValid returns what is no number, or none that is valid anywhere, also if
// its last 8, 16, 32 or 64 bits are 1.
func notValid() []string {
	return []string{"", "-", "+", "x", "one", "NaN", "nil", "\uff10", "\u0663", "\u00b2", "-0", "-1", "61", "257", "65537",
		"4294967296", "4294967297", "-4294967295", "9223372036854775807", "9223372036854775808", "-9223372036854775808",
		"18446744073709551616", "18446744073709551617", "-18446744073709551615", strings.Repeat("1", 1000), strings.Repeat("0", 1000)}
}

func TestDeskOfNumbersThatAreNone(t *testing.T) {
	ahead, behind := besideNumbers()
	for _, good := range goodLines() {
		for _, text := range ahead {
			expectEach(t, answeredBy("wrong", alteredAt(good.line, func(number string) string { return text + number })...))
		}
		for _, text := range behind {
			expectEach(t, answeredBy("wrong", alteredAt(good.line, func(number string) string { return number + text })...))
		}
		for _, text := range notValid() {
			expectEach(t, answeredBy("wrong", alteredAt(good.line, func(string) string { return text })...))
		}
	}
}

func TestDeskOfSpaces(t *testing.T) {
	for _, good := range goodLines() {
		for _, behind := range []string{" ", "  ", "\n", "\t", "\r\n", "\x00", " \n", " 1", " x", " " + good.line, "\n" + good.line, ",", "/", ";"} {
			expectEach(t, answeredBy("wrong", good.line+behind))
		}
		for at := range good.line {
			if ahead, from := good.line[:at], good.line[at:]; from[0] == ' ' {
				expectEach(t, answeredBy("wrong", ahead+" "+from, ahead+"  "+from, ahead, ahead+" "))
			}
		}
	}
}

func TestDeskOfTooFewAndTooManyNumbers(t *testing.T) {
	expectEach(t, answeredBy("wrong",
		"two 3", "two 3,2,1", "two 3/2", "two 3,2/1", "two 3/2,1", "two 3,2/1,4,2", "two 3,2,1/1,4", "two 3,2/1,4/2", "two 3,2,1,4",
		"two 3 2", "two 3,2 1,4", "two 3,2/1,4 2", "two 1 3,2", "two 3,2 /1,4", "two 3,2/ 1,4", "two 3, 2", "two 3\t2", "two 3,2\n1,4",
		"kept 3", "kept 3,1", "kept 3,1,4,2", "kept 3,1,4/2,4", "kept 3,1/2,4,9", "kept 3,1,4/2,4,9,1", "kept 3,1,4,2,4,9", "kept 3/1/4",
		"kept 3 1 4", "kept 3,1,4 2,4,9", "kept 1 3,1,4",
		"lots 5", "lots 5 1", "lots 5 1 ", "lots 5 3,0", "lots 3,0,4", "lots 5 1 3 0", "lots 5 1 3,0 4", "lots 5 1 2 3,0", "lots 5,1 3,0",
		"lots 5,1 1 3,0", "lots 5 1,1 3,0", "lots 5/1 3,0", "lots 5/1 1 3", "lots 5 1/1 3", "lots 5  3,0", "lots  5 1 3,0",
		"rolls 10", "rolls 10 ", "rolls 4,4", "rolls 10 4 4", "rolls 10 4,4 6", "rolls 10 10 4,4", "rolls 10,10 4,4", "rolls 10/10 4,4",
		"rolls  10 4,4",
		"stock 1", "stock 1 3", "stock 1 3 ", "stock 1 1,2,1", "stock 1,2,1", "stock 1 3 1 2 1", "stock 1 3 1,2 1", "stock 1 3 1 1,2",
		"stock 1,3 1,2", "stock 1,3 1 1,2", "stock 1 3,1 1,2", "stock 1/3 1 1", "stock 1 3/1 1", "stock  1 3 1,2", "stock 1  3 1,2"))
}

func TestDeskOfCommasAndSlashes(t *testing.T) {
	expectEach(t, answeredBy("wrong",
		"two 3,2,", "two ,3,2", "two 3,,2", "two 3,2/1,4/", "two /3,2", "two 3,2//1,4", "two 3,2/,", "two 3,2/,4", "two 3,2/1,", "two 3,2,/1,4",
		"two 3;2", "two 3.2", "two 3,2|1,4", "two 3,2\\1,4", "two 3,2;1,4",
		"kept 3,1,4,", "kept ,3,1,4", "kept 3,,4", "kept 3,1,", "kept 3,1,4/", "kept /3,1,4", "kept 3,1,4//2,4,9", "kept 3,1,4/,,", "kept ,,/3,1,4",
		"lots 5 1 3/0", "lots 5 1 3,0/4,2", "lots 5 1 3/", "lots 5 1 /3", "lots 5 1 3,0,", "lots 5 1 ,3,0", "lots 5 1 3,,0", "lots 5 1 3//0",
		"lots 5 1 ,", "lots 5 1 /", "lots 5, 1 3", "lots 5/ 1 3", "lots ,5 1 3", "lots 5 1, 3", "lots 5 /1 3",
		"rolls 10 4/4", "rolls 10 4,4/6,6", "rolls 10 4,4/", "rolls 10 /4,4", "rolls 10 4,,4", "rolls 10 ,4", "rolls 10 4,", "rolls 10, 4", "rolls /10 4",
		"stock 1 3 1/2", "stock 1 3 1,2/1", "stock 1 3 1,2/", "stock 1 3 /1,2", "stock 1 3 1,,2", "stock 1 3 ,1", "stock 1 3 1,", "stock 1, 3 1",
		"stock 1 /3 1"))
}

func TestDeskOfLongLines(t *testing.T) {
	for _, many := range []int{9, 100, 10000} {
		row := strings.Repeat("1,", many) + "1"
		expectEach(t, answeredBy("wrong", "two "+row, "kept "+row, "lots 1 1 "+row, "rolls 20 "+row, "stock 1 1 "+row,
			"two "+strings.Repeat("1,1/", many)+"1,1", "kept "+strings.Repeat("1,1,1/", many)+"1,1,1",
			"two "+strings.Repeat(",", many), "two "+strings.Repeat("/", many), "two"+strings.Repeat(" ", many),
			"lots "+strings.Repeat("1 ", many)+"1", "rolls "+strings.Repeat("9", many)+" 1", "stock 1 1 "+strings.Repeat("9", many)))
		expectEach(t, answeredBy("what", strings.Repeat("two", many), strings.Repeat("x", many), strings.Repeat(" ", many)+"two 3,2"))
	}
}

// nearlyRight returns the line with one byte left out, put to it, in place of
// another one, or exchanged with the next one.
func nearlyRight(line string, bytes []byte) []string {
	var lines []string
	for at := range len(line) + 1 {
		for _, b := range bytes {
			lines = append(lines, line[:at]+string([]byte{b})+line[at:])
			if at < len(line) {
				lines = append(lines, line[:at]+string([]byte{b})+line[at+1:])
			}
		}
		if at < len(line) {
			lines = append(lines, line[:at]+line[at+1:], line[:at+1]+line[at:])
		}
		if at+1 < len(line) {
			lines = append(lines, line[:at]+line[at+1:at+2]+line[at:at+1]+line[at+2:])
		}
	}
	return lines
}

func TestDeskOfLinesThatAreNearlyRight(t *testing.T) {
	forms := newForms()
	var all []byte
	for b := range 256 {
		all = append(all, byte(b))
	}
	counts := map[string]int{}
	for i, good := range goodLines() {
		bytes := []byte("0123456789,/ -+.atwoTx\t\n\r\x00\xff")
		if i%3 == 1 {
			bytes = all
		}
		var list []asked
		for _, line := range nearlyRight(good.line, bytes) {
			list = append(list, asked{line, forms.answer(line)})
		}
		for some := range slices.Chunk(list, impl.MaxDesk) {
			expectAnswers(t, some...)
		}
		for _, one := range list {
			counts[one.answer]++
		}
	}
	if counts["wrong"] < 10000 || counts["what"] < 10000 || len(counts) < 100 {
		t.Errorf("only %d wrong, %d what, and %d different answers", counts["wrong"], counts["what"], len(counts))
	}
}

func TestDeskByFunctions(t *testing.T) {
	forms := newForms()
	list := someAsked()
	for _, one := range list {
		if answer := forms.answer(one.line); answer != one.answer || answer == "wrong" || answer == "what" {
			t.Fatalf("the answer to %q by its form is %q, want %q", one.line, answer, one.answer)
		}
		expectAnswers(t, one)
	}
	fixedRandom().Shuffle(len(list), func(i, j int) { list[i], list[j] = list[j], list[i] })
	for some := range slices.Chunk(list, impl.MaxDesk) {
		expectAnswers(t, some...)
	}
}

// mixedLines returns n lines, some of them right, nearly right, or of no kind.
func mixedLines(r *rand.Rand, list []asked, n int) []string {
	var lines []string
	for range n {
		line := list[r.IntN(len(list))].line
		switch r.IntN(6) {
		case 0:
			near := nearlyRight(line, []byte(",/ -0\n"))
			line = near[r.IntN(len(near))]
		case 1:
			line = []string{"", "walk 1", "two", "kept ", "lots 1 1", "stock 1 1 0", "kept 2,1,1", "two 1,1\ntwo 1,1", "\n"}[r.IntN(9)]
		}
		lines = append(lines, line)
	}
	return lines
}

func TestP61EachLineHasAnAnswer(t *testing.T) {
	r := fixedRandom()
	forms := newForms()
	list := someAsked()
	for n := range impl.MaxDesk + 1 {
		for range 20 {
			lines := mixedLines(r, list, n)
			answers := impl.RunDesk(lines)
			if strings.Count(answers, "\n") != n {
				t.Fatalf("RunDesk(%q) = %q", lines, answers)
			}
			for half := range n + 1 {
				if first, second := impl.RunDesk(lines[:half]), impl.RunDesk(lines[half:]); first+second != answers {
					t.Fatalf("RunDesk(%q) = %q, and of its first %d lines and the others %q and %q", lines, answers, half, first, second)
				}
			}
			for i, line := range lines {
				if answer := strings.Split(answers, "\n")[i]; answer != forms.answer(line) {
					t.Fatalf("RunDesk(%q) answers %q by %q", lines, line, answer)
				}
			}
		}
	}
}

func TestDeskIsTheFunctionsTogether(t *testing.T) {
	for _, jobs := range someTwos()[1:] {
		order := impl.RuleOrder(jobs)
		expectAnswers(t, asked{twoLine(jobs), fmt.Sprint(commas(order), " ", impl.SpanOf(jobs, order))})
	}
	for _, jobs := range someOnes()[1:] {
		expectAnswers(t, asked{keptLine(jobs), commas(impl.KeptOnTime(jobs))})
	}
	for _, pair := range somePairs() {
		for _, days := range someWants() {
			if set, hold := pair.set, pair.hold; len(days) > 0 {
				expectAnswers(t, asked{lotsLine(days, set, hold), fmt.Sprint(commas(impl.BestLots(days, set, hold)), " ", impl.LeastLots(days, set, hold))})
			}
		}
	}
	for _, c := range someCuts() {
		if len(c.list) > 0 {
			expectAnswers(t, asked{rollsLine(c.list, c.roll), fmt.Sprint(impl.FewestRolls(c.list, c.roll), " ", commas(impl.RollsBy(c.list, c.roll, "long")))})
		}
	}
	forChances(func(w []int, over, under int) {
		expectAnswers(t, asked{stockLine(w, over, under), strconv.Itoa(impl.BestStock(w, over, under))})
	})
}

func TestDeskChangesNoLines(t *testing.T) {
	r := fixedRandom()
	list := someAsked()
	for n := range impl.MaxDesk + 10 {
		for range 20 {
			lines := mixedLines(r, list, n)
			guard := append(slices.Clone(lines), "two 1,1", "spare")
			first := impl.RunDesk(guard[:n])
			second := impl.RunDesk(guard[:n])
			if !slices.Equal(guard[:n], lines) || guard[n] != "two 1,1" || guard[n+1] != "spare" {
				t.Fatalf("RunDesk changed its lines %q", lines)
			}
			clear(guard)
			if first != second || first != impl.RunDesk(lines) {
				t.Fatalf("RunDesk(%q) = %q, and then %q", lines, first, second)
			}
		}
	}
}
