package lin

import (
	"slices"

	"pannier/api"
)

// some asks whether is holds of a sight.
func some(l []api.Seen, is func(s api.Seen) bool) bool {
	return slices.ContainsFunc(l, is)
}

// moments answers that moment of each sight of which all of the questions hold.
func moments(l []api.Seen, moment func(s api.Seen) int, questions ...func(s api.Seen) bool) []int {
	var all []int
	for _, s := range l {
		if !slices.ContainsFunc(questions, func(is func(s api.Seen) bool) bool { return !is(s) }) {
			all = append(all, moment(s))
		}
	}
	return all
}

// byToken answers the sights of each token, so that none has to be looked for among all.
func byToken(l []api.Seen) map[string][]api.Seen {
	sights := map[string][]api.Seen{}
	for _, s := range l {
		sights[s.Token] = append(sights[s.Token], s)
	}
	return sights
}

// mayBe asks whether there may be such a sight.
func mayBe(s api.Seen) bool {
	if s.Begin < 1 || s.Begin >= api.MaxTime || s.Id < 0 {
		return false
	}
	if !ended(s) {
		return s.Id == 0
	}
	return s.Begin <= s.End && s.End < api.MaxTime
}

// of answers the question whether a sight is one of that token.
func of(token string) func(s api.Seen) bool {
	return func(s api.Seen) bool { return s.Token == token }
}

// told answers the question whether a sight was told that order, 0: none.
func told(id int) func(s api.Seen) bool {
	return func(s api.Seen) bool { return s.Id == id }
}

func isCheckout(s api.Seen) bool { return s.Checkout }

func isStatus(s api.Seen) bool { return !s.Checkout }

func ended(s api.Seen) bool { return s.End != 0 }

func begin(s api.Seen) int { return s.Begin }

func end(s api.Seen) int { return s.End }
