package tests

import (
	"math"
	"runtime"
	"slices"
	"strings"
	"testing"

	"loop.example/linksandframes/impl"
)

// everyAct are the acts that the document has, and digits for which there is never a word.
const everyAct = "sdxay0123456789"

// planOf returns the plan with these numbers in their order.
func planOf(numbers int, ahead int, kept int, words int) impl.Plan {
	return impl.Plan{Numbers: numbers, Ahead: ahead, Kept: kept, Words: words}
}

// linkOf returns the link with these numbers in their order.
func linkOf(known int, sent int, due int, held int, data int, word int) impl.Link {
	return impl.Link{Known: known, Sent: sent, Due: due, Held: held, Data: data, Word: word}
}

// isPlan reports whether a plan is within the limits.
func isPlan(p impl.Plan) bool {
	return 2 <= p.Numbers && p.Numbers <= 4 && 1 <= p.Ahead && p.Ahead <= 4 &&
		1 <= p.Kept && p.Kept <= 4 && 1 <= p.Words && p.Words <= 5
}

// plansAround returns all plans within the limits and around them.
func plansAround() []impl.Plan {
	var list []impl.Plan
	for numbers := range 6 {
		for ahead := range 6 {
			for kept := range 6 {
				for words := range 7 {
					list = append(list, impl.Plan{Numbers: numbers, Ahead: ahead, Kept: kept, Words: words})
				}
			}
		}
	}
	return list
}

// plansOf returns the plans around the limits for which a function holds.
func plansOf(holds func(p impl.Plan) bool) []impl.Plan {
	return slices.DeleteFunc(plansAround(), func(p impl.Plan) bool { return !holds(p) })
}

// allPlans returns all valid plans.
func allPlans() []impl.Plan {
	return plansOf(isPlan)
}

// isSafe reports whether a plan is valid and its numbers are enough for both ends.
func isSafe(p impl.Plan) bool {
	return isPlan(p) && min(p.Ahead, p.Words)+p.Kept <= p.Numbers
}

// safePlans returns all valid plans by which no wrong word is taken.
func safePlans() []impl.Plan {
	return plansOf(isSafe)
}

// unsafePlans returns plans of which the numbers are too few, and those that are none.
func unsafePlans() []impl.Plan {
	return append(badPlans(), plansOf(func(p impl.Plan) bool { return !isSafe(p) })...)
}

// badPlans are plans with one number that is out of its limits.
func badPlans() []impl.Plan {
	list := []impl.Plan{{}}
	for _, x := range []int{math.MinInt, -1, 0, impl.MaxWords + 1, math.MaxInt} {
		list = append(list, planOf(x, 1, 1, 1), planOf(2, x, 1, 1), planOf(2, 1, x, 1), planOf(2, 1, 1, x))
	}
	return append(list, planOf(1, 1, 1, 1), planOf(5, 1, 1, 1), planOf(4, 5, 1, 1), planOf(4, 1, 5, 1), planOf(4, 1, 1, 6))
}

// comeWords returns the words that have come on a link.
func comeWords(p impl.Plan, l impl.Link) map[int]bool {
	come := map[int]bool{}
	for word := range l.Due {
		come[word] = true
	}
	for k := 1; k < p.Kept; k++ {
		if l.Held&(1<<k) != 0 {
			come[l.Due+k] = true
		}
	}
	return come
}

// dueAndHeld returns the first word that has not come, and the sum for those behind it that have.
func dueAndHeld(come map[int]bool) (int, int) {
	due, held := 0, 0
	for come[due] {
		due++
	}
	for word := range come {
		if word > due {
			held += 1 << (word - due)
		}
	}
	return due, held
}

// isLink reports whether a link is one of a plan, by the words that have come.
func isLink(p impl.Plan, l impl.Link) bool {
	if l.Known < 0 || l.Known > p.Words || l.Sent < l.Known || l.Sent > p.Words || l.Sent > l.Known+p.Ahead {
		return false
	}
	if l.Due < l.Known || l.Due > l.Sent || l.Data < -1 || l.Data >= l.Sent || l.Word < -1 || l.Word > l.Due {
		return false
	}
	come := comeWords(p, l)
	for word := range come {
		if word >= l.Sent {
			return false
		}
	}
	due, held := dueAndHeld(come)
	return due == l.Due && held == l.Held
}

// linksAround returns the links of a plan and what is around them.
func linksAround(p impl.Plan) []impl.Link {
	var list []impl.Link
	for known := -1; known <= p.Words+1; known++ {
		for sent := -1; sent <= p.Words+1; sent++ {
			for due := -1; due <= p.Words+1; due++ {
				list = append(list, linksWith(known, sent, due, -2, 1<<p.Kept, p.Words, p.Words+1)...)
			}
		}
	}
	return list
}

// linksWith returns the links of which this is sent and has come, and all else is up to the most there may be.
func linksWith(known int, sent int, due int, leastHeld int, mostHeld int, mostData int, mostWord int) []impl.Link {
	var list []impl.Link
	for held := leastHeld; held <= mostHeld; held++ {
		for data := -2; data <= mostData; data++ {
			for word := -2; word <= mostWord; word++ {
				list = append(list, linkOf(known, sent, due, held, data, word))
			}
		}
	}
	return list
}

// linksOfPlan returns all links of a plan, also those that are behind no acts.
func linksOfPlan(p impl.Plan) []impl.Link {
	var list []impl.Link
	for known := range p.Words + 1 {
		for sent := known; sent <= p.Words; sent++ {
			for due := known; due <= sent; due++ {
				for _, l := range linksWith(known, sent, due, 0, 1<<min(p.Kept, sent-due), sent, due) {
					if isLink(p, l) {
						list = append(list, l)
					}
				}
			}
		}
	}
	return list
}

// somePlans are plans of one word and of several, with and without numbers enough, and with the greatest limits.
func somePlans() []impl.Plan {
	return []impl.Plan{planOf(2, 1, 1, 1), planOf(2, 1, 2, 1), planOf(2, 2, 1, 3), planOf(2, 4, 4, 2), planOf(3, 2, 2, 3), planOf(4, 2, 2, 4), planOf(4, 3, 1, 5), planOf(4, 4, 3, 3), planOf(4, 4, 4, 5)}
}

// afterTake returns the link that is told behind the word on its way, and whether it is not taken for another one.
func afterTake(p impl.Plan, l impl.Link) (impl.Link, bool) {
	word := l.Data
	l.Data = -1
	come := comeWords(p, l)
	for place := l.Due; place < l.Due+p.Kept; place++ {
		if (place-word)%p.Numbers != 0 {
			continue
		}
		if place != word {
			return l, false
		}
		come[word] = true
		break
	}
	l.Due, l.Held = dueAndHeld(come)
	l.Word = l.Due
	return l, true
}

// afterLearn returns the link that is told behind the answer on its way.
func afterLearn(p impl.Plan, l impl.Link) impl.Link {
	answer := l.Word
	l.Word = -1
	for known := l.Sent; known > l.Known; known-- {
		// All that have the answer's rest are as far apart as there are numbers: the least one has none below it.
		if (known-answer)%p.Numbers == 0 && known-p.Numbers <= l.Known {
			l.Known = known
		}
	}
	return l
}

// wanted returns what ActOn has to tell of a link.
func wanted(p impl.Plan, l impl.Link, act byte) (impl.Link, bool, bool) {
	next := l
	switch {
	case act == 's' && l.Data == -1 && l.Sent < p.Words && l.Sent < l.Known+p.Ahead:
		next.Data, next.Sent = l.Sent, l.Sent+1
	case '0' <= act && act <= '9' && l.Data == -1 && l.Known+int(act-'0') < l.Sent:
		next.Data = l.Known + int(act-'0')
	case act == 'x' && l.Data != -1:
		next.Data = -1
	case act == 'y' && l.Word != -1:
		next.Word = -1
	case act == 'a' && l.Word != -1:
		next = afterLearn(p, l)
	case act == 'd' && l.Data != -1:
		next, right := afterTake(p, l)
		return next, true, right
	default:
		return l, false, true
	}
	return next, true, true
}

// theActs returns the shortest texts by which each link of a plan comes about by RunLink, and one by which a wrong word is taken, "" if there is none.
func theActs(p impl.Plan) (map[impl.Link]string, string) {
	wrong := ""
	texts := map[impl.Link]string{impl.NewLink(): ""}
	list := []string{""}
	for at := 0; at < len(list); at++ {
		for _, act := range everyAct {
			s := list[at] + string(act)
			l, _, ok := impl.RunLink(p, s)
			if !ok && wrong == "" {
				wrong = s
			}
			if _, found := texts[l]; ok && !found {
				texts[l] = s
				list = append(list, s)
			}
		}
	}
	return texts, wrong
}

// mixedActs returns n acts in an order that is another one for each seed.
func mixedActs(seed int, n int) string {
	next := mixer(seed)
	acts := make([]byte, n)
	for i := range acts {
		acts[i] = "ssddaa01230xy"[next(13)]
	}
	return string(acts)
}

func TestWindowConstants(t *testing.T) {
	if impl.MaxNumbers != 4 || impl.MaxWords != 5 || impl.MaxActs != 60 || impl.MaxLost != 6 {
		t.Errorf("MaxNumbers, MaxWords, MaxActs, MaxLost = %d, %d, %d, %d", impl.MaxNumbers, impl.MaxWords, impl.MaxActs, impl.MaxLost)
	}
}

func TestPromise20PlansMayHaveFewerWords(t *testing.T) {
	for _, p := range plansAround() {
		if impl.ValidPlan(p) != isPlan(p) {
			t.Errorf("ValidPlan(%v) = %v", p, !isPlan(p))
		}
		fewer := p
		fewer.Words--
		if impl.ValidPlan(p) && p.Words > 1 && !impl.ValidPlan(fewer) {
			t.Errorf("ValidPlan(%v) with one word less than %v is false", fewer, p)
		}
	}
}

func TestValidPlanRefuses(t *testing.T) {
	for _, p := range badPlans() {
		if impl.ValidPlan(p) {
			t.Errorf("ValidPlan(%v)", p)
		}
	}
	if !impl.ValidPlan(planOf(2, 1, 1, 1)) || !impl.ValidPlan(planOf(impl.MaxNumbers, impl.MaxNumbers, impl.MaxNumbers, impl.MaxWords)) {
		t.Errorf("ValidPlan of the limits is false")
	}
}

func TestPromise21NewLinksHaveNothingOnTheirWay(t *testing.T) {
	l := impl.NewLink()
	if (l != impl.Link{Known: 0, Sent: 0, Due: 0, Held: 0, Data: -1, Word: -1}) {
		t.Errorf("NewLink() = %v", l)
	}
	for _, p := range allPlans() {
		for _, act := range []byte("dxay0123") {
			if next, may, ok := impl.ActOn(p, l, act); may || !ok || next != l {
				t.Errorf("ActOn(%v, NewLink(), %q) = %v, %v, %v", p, act, next, may, ok)
			}
		}
	}
}

func TestPromise22ActsChangeWhatTheyAreFor(t *testing.T) {
	for _, p := range allPlans() {
		for _, l := range linksOfPlan(p) {
			for _, act := range []byte(everyAct) {
				next, may, ok := impl.ActOn(p, l, act)
				keepsToAct(t, p, l, act, next, may, ok)
			}
		}
	}
}

// keepsToAct reports a fault if an act did something that it is not for.
func keepsToAct(t *testing.T, p impl.Plan, l impl.Link, act byte, next impl.Link, may bool, ok bool) {
	t.Helper()
	same := next
	switch {
	case !may:
	case act == 's':
		same.Sent, same.Data = next.Sent-1, -1
	case act == 'd' || act == 'x':
		same = l
	case act == 'a' || act == 'y':
		same.Known, same.Word = l.Known, l.Word
	default:
		same.Data = -1
	}
	onWay := next.Data != -1
	kept := same == l && (ok || act == 'd')
	switch act {
	case 's', '0', '1', '2', '3':
		kept = kept && (!may || l.Data == -1 && onWay)
	case 'x':
		l.Data = -1
		kept = kept && next == l
	case 'y':
		l.Word = -1
		kept = kept && next == l
	case 'd':
		kept = kept && !onWay && next.Known == l.Known && next.Sent == l.Sent
	}
	if !kept {
		t.Errorf("ActOn(%v, %v, %q) = %v, %v, %v", p, l, act, next, may, ok)
	}
}

func TestActOnAllLinks(t *testing.T) {
	for _, p := range allPlans() {
		for _, l := range linksOfPlan(p) {
			for _, act := range []byte(everyAct) {
				want, wantMay, wantOk := wanted(p, l, act)
				if next, may, ok := impl.ActOn(p, l, act); next != want || may != wantMay || ok != wantOk {
					t.Fatalf("ActOn(%v, %v, %q) = %v, %v, %v, want %v, %v, %v", p, l, act, next, may, ok, want, wantMay, wantOk)
				}
			}
		}
	}
}

func TestActOnEdges(t *testing.T) {
	for _, c := range []struct {
		p    impl.Plan
		l    impl.Link
		act  byte
		want impl.Link
		may  bool
		ok   bool
	}{
		// All words have been sent, as many ahead as may be, or one is on its way.
		{planOf(4, 4, 1, 1), linkOf(0, 1, 0, 0, -1, -1), 's', linkOf(0, 1, 0, 0, -1, -1), false, true},
		{planOf(4, 2, 1, 5), linkOf(1, 3, 1, 0, -1, -1), 's', linkOf(1, 3, 1, 0, -1, -1), false, true},
		{planOf(4, 2, 1, 5), linkOf(1, 2, 1, 0, 0, -1), 's', linkOf(1, 2, 1, 0, 0, -1), false, true},
		{planOf(4, 2, 1, 5), linkOf(1, 2, 1, 0, -1, 1), 's', linkOf(1, 3, 1, 0, 2, 1), true, true},
		// A word that has not been sent is not sent again, nor is one while another one is on its way.
		{planOf(4, 4, 1, 5), linkOf(1, 3, 1, 0, -1, -1), '1', linkOf(1, 3, 1, 0, 2, -1), true, true},
		{planOf(4, 4, 1, 5), linkOf(1, 3, 1, 0, -1, -1), '2', linkOf(1, 3, 1, 0, -1, -1), false, true},
		{planOf(4, 4, 1, 5), linkOf(1, 3, 1, 0, 1, -1), '1', linkOf(1, 3, 1, 0, 1, -1), false, true},
		// Those held go on with the one that was due; a word held comes once more; one too far behind is only answered.
		{planOf(4, 4, 3, 5), linkOf(0, 4, 0, 6, 0, -1), 'd', linkOf(0, 4, 3, 0, -1, 3), true, true},
		{planOf(4, 4, 4, 5), linkOf(0, 4, 0, 10, 0, 0), 'd', linkOf(0, 4, 2, 2, -1, 2), true, true},
		{planOf(4, 4, 3, 5), linkOf(0, 4, 0, 4, 2, 0), 'd', linkOf(0, 4, 0, 4, -1, 0), true, true},
		{planOf(4, 4, 2, 5), linkOf(0, 4, 0, 0, 3, -1), 'd', linkOf(0, 4, 0, 0, -1, 0), true, true},
		// An old word is taken for a new one, even for one that there is not.
		{planOf(2, 2, 1, 3), linkOf(0, 2, 2, 0, 0, 1), 'd', linkOf(0, 2, 2, 0, -1, 1), true, false},
		{planOf(2, 1, 2, 1), linkOf(0, 1, 1, 0, 0, -1), 'd', linkOf(0, 1, 1, 0, -1, -1), true, false},
		// More are kept than there are numbers: it is the first one with this rest.
		{planOf(2, 3, 4, 3), linkOf(0, 3, 0, 0, 2, -1), 'd', linkOf(0, 3, 0, 0, -1, -1), true, false},
		// An answer is new, is not, or is taken for another one.
		{planOf(2, 1, 1, 3), linkOf(1, 2, 2, 0, -1, 2), 'a', linkOf(2, 2, 2, 0, -1, -1), true, true},
		{planOf(2, 1, 1, 3), linkOf(1, 2, 1, 0, -1, 1), 'a', linkOf(1, 2, 1, 0, -1, -1), true, true},
		{planOf(2, 2, 1, 3), linkOf(0, 2, 0, 0, -1, 0), 'a', linkOf(2, 2, 0, 0, -1, -1), true, true},
		{planOf(2, 4, 1, 5), linkOf(0, 4, 3, 0, -1, 3), 'a', linkOf(1, 4, 3, 0, -1, -1), true, true},
		// Nothing is on its way.
		{planOf(2, 1, 1, 1), linkOf(0, 1, 1, 0, -1, -1), 'd', linkOf(0, 1, 1, 0, -1, -1), false, true},
		{planOf(2, 1, 1, 1), linkOf(0, 1, 1, 0, -1, 1), 'x', linkOf(0, 1, 1, 0, -1, 1), false, true},
		{planOf(2, 1, 1, 1), linkOf(0, 1, 1, 0, 0, -1), 'a', linkOf(0, 1, 1, 0, 0, -1), false, true},
		{planOf(2, 1, 1, 1), linkOf(0, 1, 1, 0, 0, -1), 'y', linkOf(0, 1, 1, 0, 0, -1), false, true},
	} {
		if next, may, ok := impl.ActOn(c.p, c.l, c.act); next != c.want || may != c.may || ok != c.ok {
			t.Errorf("ActOn(%v, %v, %q) = %v, %v, %v, want %v, %v, %v", c.p, c.l, c.act, next, may, ok, c.want, c.may, c.ok)
		}
	}
}

func TestActOnRefuses(t *testing.T) {
	for _, p := range badPlans() {
		refusesLink(t, p, impl.NewLink())
	}
	for _, p := range somePlans() {
		for _, l := range linksAround(p) {
			if !isLink(p, l) {
				refusesLink(t, p, l)
			}
		}
	}
	for _, x := range []int{math.MinInt, math.MinInt + 1, 1 << 32, 1 << 62, math.MaxInt - 1, math.MaxInt} {
		for _, l := range []impl.Link{linkOf(x, 0, 0, 0, -1, -1), linkOf(0, x, 0, 0, -1, -1), linkOf(0, 0, x, 0, -1, -1), linkOf(0, 0, 0, x, -1, -1), linkOf(0, 0, 0, 0, x, -1), linkOf(0, 0, 0, 0, -1, x), linkOf(x, x, x, 0, -1, -1), linkOf(x, x, x, x, x, x)} {
			refusesLink(t, planOf(4, 4, 4, 5), l)
		}
	}
	// Held has neither what is due nor what is not kept, and no word that has not been sent.
	for _, held := range []int{1, 3, 4, 6, 8, -2} {
		refusesLink(t, planOf(4, 4, 2, 5), linkOf(0, 4, 0, held, -1, -1))
	}
	refusesLink(t, planOf(4, 4, 4, 5), linkOf(0, 2, 0, 4, -1, -1))
	refusesLink(t, planOf(4, 4, 4, 5), impl.Link{})
}

// refusesLink reports a fault if an act on a link is done or passed over.
func refusesLink(t *testing.T, p impl.Plan, l impl.Link) {
	t.Helper()
	for _, act := range []byte("sdxay0z") {
		if next, may, ok := impl.ActOn(p, l, act); next != (impl.Link{}) || may || ok {
			t.Errorf("ActOn(%v, %v, %q) = %v, %v, %v", p, l, act, next, may, ok)
		}
	}
}

func TestActOnOtherBytes(t *testing.T) {
	p := planOf(4, 4, 2, 5)
	for _, l := range []impl.Link{linkOf(0, 0, 0, 0, -1, -1), linkOf(1, 4, 1, 2, -1, -1), linkOf(1, 4, 1, 2, 3, 1)} {
		for act := range 256 {
			if strings.IndexByte(everyAct, byte(act)) >= 0 {
				continue
			}
			if next, may, ok := impl.ActOn(p, l, byte(act)); next != l || may || !ok {
				t.Errorf("ActOn(%v, %v, %q) = %v, %v, %v", p, l, byte(act), next, may, ok)
			}
		}
	}
}

func TestPromise23SafeLinksTakeNoWrongWord(t *testing.T) {
	texts := allTexts("sd0xay1", 4)
	for seed := range 200 {
		texts = append(texts, mixedActs(seed, impl.MaxActs))
	}
	for _, p := range allPlans() {
		if !impl.IsSafe(p) {
			continue
		}
		for _, s := range texts {
			l, n, ok := impl.RunLink(p, s)
			if !ok || n < 0 || n > len(s) || l.Known > l.Due || l.Due > l.Sent {
				t.Errorf("RunLink(%v, %q) = %v, %d, %v", p, s, l, n, ok)
			}
		}
	}
}

func TestRunLinkIsActOnOneAfterTheOther(t *testing.T) {
	for _, p := range allPlans() {
		for seed := range 100 {
			s := mixedActs(seed, impl.MaxActs)
			l, done, right := impl.NewLink(), 0, true
			// ActOn tells nothing of what is no link any more.
			for at := 0; at < len(s) && right && isLink(p, l); at++ {
				next, may, ok := impl.ActOn(p, l, s[at])
				if may {
					done++
				}
				l, right = next, ok
				if got, n, ok := impl.RunLink(p, s[:at+1]); got != l || n != done || ok != right {
					t.Fatalf("RunLink(%v, %q) = %v, %d, %v, want %v, %d, %v", p, s[:at+1], got, n, ok, l, done, right)
				}
			}
		}
	}
}

func TestRunLinkEdges(t *testing.T) {
	one := planOf(2, 1, 1, 1)
	several := planOf(4, 2, 2, 4)
	wide := planOf(2, 2, 1, 3)
	for _, c := range []struct {
		p    impl.Plan
		s    string
		want impl.Link
		n    int
		ok   bool
	}{
		{one, "", impl.NewLink(), 0, true},
		{one, "zda1\xff 9S", impl.NewLink(), 0, true},
		{one, "sda", linkOf(1, 1, 1, 0, -1, -1), 3, true},
		{one, "sdasda0da", linkOf(1, 1, 1, 0, -1, -1), 3, true},
		{one, strings.Repeat("sx0", 20), linkOf(0, 1, 0, 0, 0, -1), 41, true},
		{one, "s" + strings.Repeat("dy0", 19), linkOf(0, 1, 1, 0, 0, -1), 58, true},
		{several, strings.Repeat("sx", 30), linkOf(0, 2, 0, 0, -1, -1), 4, true},
		{several, strings.Repeat("sdy", 20), linkOf(0, 2, 2, 0, -1, -1), 6, true},
		{several, "sxsd0d", linkOf(0, 2, 2, 0, -1, 2), 6, true},
		{several, "sdsda0d", linkOf(2, 2, 2, 0, -1, -1), 5, true},
		// An answer of nothing is taken for one of two words: Known is more than Due, and the link is none of ActOn's.
		{wide, "sxsda", linkOf(2, 2, 0, 0, -1, -1), 5, true},
		{wide, "sxsdas", linkOf(2, 3, 0, 0, 2, -1), 6, true},
		{wide, "sxsdasx0d", linkOf(2, 3, 0, 0, -1, -1), 9, false},
		{wide, "sxsdasdssx0", linkOf(2, 3, 0, 0, -1, -1), 7, false},
		{planOf(2, 1, 2, 1), "sd0dsss", linkOf(0, 1, 1, 0, -1, 1), 4, false},
		{planOf(2, 1, 2, 1), "sd0", linkOf(0, 1, 1, 0, 0, 1), 3, true},
	} {
		if l, n, ok := impl.RunLink(c.p, c.s); l != c.want || n != c.n || ok != c.ok {
			t.Errorf("RunLink(%v, %q) = %v, %d, %v, want %v, %d, %v", c.p, c.s, l, n, ok, c.want, c.n, c.ok)
		}
	}
}

func TestRunLinkRefuses(t *testing.T) {
	for _, p := range badPlans() {
		for _, s := range []string{"", "sda", "z"} {
			if l, n, ok := impl.RunLink(p, s); l != (impl.Link{}) || n != -1 || ok {
				t.Errorf("RunLink(%v, %q) = %v, %d, %v", p, s, l, n, ok)
			}
		}
	}
	for _, n := range []int{impl.MaxActs + 1, 2 * impl.MaxActs} {
		for _, act := range []string{"s", "z", "\xff"} {
			s := strings.Repeat(act, n)
			if l, n, ok := impl.RunLink(planOf(2, 1, 1, 1), s); l != (impl.Link{}) || n != -1 || ok {
				t.Errorf("RunLink of %d acts %q = %v, %d, %v", len(s), act, l, n, ok)
			}
		}
	}
	// A text too long is refused even where a wrong word is taken ahead of its end.
	if _, n, ok := impl.RunLink(planOf(2, 1, 2, 1), "sd0d"+strings.Repeat("z", impl.MaxActs-3)); n != -1 || ok {
		t.Errorf("RunLink of too many acts = %d, %v", n, ok)
	}
	if _, n, ok := impl.RunLink(planOf(2, 1, 1, 1), strings.Repeat("z", impl.MaxActs)); n != 0 || !ok {
		t.Errorf("RunLink of %d acts = %d, %v", impl.MaxActs, n, ok)
	}
}

func TestPromise24NumbersMustBeEnoughForBothEnds(t *testing.T) {
	for _, p := range allPlans() {
		if impl.IsSafe(p) != isSafe(p) {
			t.Errorf("IsSafe(%v) = %v", p, !isSafe(p))
		}
		// Windows that are too wide are found by acts, and others by none.
		if _, wrong := theActs(p); (wrong == "") != isSafe(p) {
			t.Errorf("a wrong word is taken on a link of %v by %q", p, wrong)
		}
	}
	for _, p := range unsafePlans() {
		if impl.IsSafe(p) {
			t.Errorf("IsSafe(%v)", p)
		}
	}
}

func TestPromise25MoreWordsAreMoreLinks(t *testing.T) {
	for _, p := range safePlans() {
		n := impl.LinksOf(p)
		if texts, _ := theActs(p); n != len(texts) {
			t.Errorf("LinksOf(%v) = %d, want %d", p, n, len(texts))
		}
		fewer := p
		fewer.Words--
		if n < p.Words+1 || p.Words > 1 && n <= impl.LinksOf(fewer) {
			t.Errorf("LinksOf(%v) = %d, and of one word less %d", p, n, impl.LinksOf(fewer))
		}
	}
}

func TestLinksOfEdges(t *testing.T) {
	for _, c := range []struct {
		p    impl.Plan
		want int
	}{
		// Of one word: one link is new; of those on which it has not come, two; on which it has, four; and it is known on three.
		{planOf(2, 1, 1, 1), 10}, {planOf(4, 4, 3, 1), 10}, {planOf(2, 1, 1, 2), 21}, {planOf(2, 1, 1, 5), 54},
	} {
		if n := impl.LinksOf(c.p); n != c.want {
			t.Errorf("LinksOf(%v) = %d, want %d", c.p, n, c.want)
		}
	}
	for _, p := range unsafePlans() {
		if n := impl.LinksOf(p); n != -1 {
			t.Errorf("LinksOf(%v) = %d", p, n)
		}
	}
}

// roundsByTexts returns how often words come by acts that are put together as a text for RunLink.
func roundsByTexts(t *testing.T, p impl.Plan, lost int) int {
	t.Helper()
	s, came, sent := "", 0, 0
	for {
		l, _, ok := impl.RunLink(p, s)
		if !ok {
			t.Fatalf("RunLink(%v, %q) is false", p, s)
		}
		if l.Known == p.Words {
			return came
		}
		if l.Sent == min(p.Words, l.Known+p.Ahead) {
			s += "0da"
			came++
			continue
		}
		if lost != 0 && sent%lost == 0 {
			s += "sxa"
		} else {
			s += "sda"
			came++
		}
		sent++
	}
}

func TestPromise26LostWordsComeAgain(t *testing.T) {
	for _, p := range safePlans() {
		for lost := range impl.MaxLost + 1 {
			n := impl.RoundsOf(p, lost)
			if want := roundsByTexts(t, p, lost); n != want {
				t.Errorf("RoundsOf(%v, %d) = %d, want %d", p, lost, n, want)
			}
			if n < p.Words || lost == 0 && n != p.Words {
				t.Errorf("RoundsOf(%v, %d) = %d, of %d words", p, lost, n, p.Words)
			}
		}
	}
}

func TestRoundsOfEdges(t *testing.T) {
	ahead := planOf(4, 3, 1, 5)
	for lost, want := range []int{5, 5, 7, 8, 8, 9, 9} {
		if n := impl.RoundsOf(ahead, lost); n != want {
			t.Errorf("RoundsOf(%v, %d) = %d, want %d", ahead, lost, n, want)
		}
	}
	for lost := range impl.MaxLost + 1 {
		// With one word, and where what comes behind a lost one is kept, each word comes just once.
		for _, p := range []impl.Plan{planOf(2, 1, 1, 1), planOf(4, 4, 3, 1), planOf(4, 2, 2, 5)} {
			if n := impl.RoundsOf(p, lost); n != p.Words {
				t.Errorf("RoundsOf(%v, %d) = %d", p, lost, n)
			}
		}
	}
}

func TestRoundsOfRefuses(t *testing.T) {
	for _, lost := range []int{math.MinInt, -1, impl.MaxLost + 1, math.MaxInt} {
		if n := impl.RoundsOf(planOf(2, 1, 1, 1), lost); n != -1 {
			t.Errorf("RoundsOf(.., %d) = %d", lost, n)
		}
	}
	for _, p := range unsafePlans() {
		for lost := range impl.MaxLost + 1 {
			if n := impl.RoundsOf(p, lost); n != -1 {
				t.Errorf("RoundsOf(%v, %d) = %d", p, lost, n)
			}
		}
	}
}

func TestNoSenderIsLeft(t *testing.T) {
	before := runtime.NumGoroutine()
	for _, p := range somePlans() {
		impl.IsSafe(p)
		impl.LinksOf(p)
		impl.RoundsOf(p, 1)
	}
	// What has closed its channel may take a moment to go.
	for range 100000 {
		if runtime.NumGoroutine() <= before {
			return
		}
		runtime.Gosched()
	}
	t.Errorf("%d senders are left", runtime.NumGoroutine()-before)
}
