package accept

import "bellman/api"

// star stands for any subtype, and, with a star as the subtype, for any type.
const star = "*"

// fits tell whether a range fits a type, by how well it does then; parameters are not looked at.
func fits() [4]func(r api.Range, kind, sub string) bool {
	return [...]func(r api.Range, kind, sub string) bool{
		func(api.Range, string, string) bool { return true },
		func(r api.Range, _, _ string) bool { return r.Type == star && r.Subtype == star },
		func(r api.Range, kind, _ string) bool { return r.Type == kind && r.Subtype == star },
		func(r api.Range, kind, sub string) bool { return r.Type == kind && r.Subtype == sub },
	}
}

// best is the first of those things that fit best, or a zero one, if none fits.
func best[T any](fit func(T) int, things ...T) T {
	var first T
	most := 0
	for _, one := range things {
		if well := fit(one); well > most {
			first, most = one, well
		}
	}
	return first
}
