package quota_test

import (
	"testing"

	"fenberry/api"
)

// P12.1: the chapter's example.
func TestQuotasExample(t *testing.T) {
	l, g := exampleCrops(), exampleGlut()
	expectQuotas(t, "example", l, g, []api.Quota{{Grower: 3, Base: 1350, Amount: 1147}, {Grower: 8, Base: 500, Amount: 425}}, api.OK)
	expectQuotas(t, "none", nil, g, nil, api.OK)
	expectQuotas(t, "none", []api.Crop{}, g, nil, api.OK)
	g.Percent = 1000
	expectQuotas(t, "all of it", l, g, []api.Quota{{Grower: 3, Base: 1350, Amount: 1350}, {Grower: 8, Base: 500, Amount: 500}}, api.OK)
	g.Percent = 0
	expectQuotas(t, "nothing", l, g, []api.Quota{{Grower: 3, Base: 1350}, {Grower: 8, Base: 500}}, api.OK)
}

// P12.1: the years that count are those from Year - Years to Year - 1; of the others no crop counts, nor does its grower.
func TestQuotasYears(t *testing.T) {
	var l []api.Crop
	for grower := range 13 {
		l = append(l, api.Crop{Grower: grower, Year: 2015 + grower, Amount: 100 + grower})
	}
	for years := 1; years <= 10; years++ {
		var want []api.Quota
		for grower := 11 - years; grower <= 10; grower++ {
			want = append(want, api.Quota{Grower: grower, Base: 100 + grower, Amount: 100 + grower})
		}
		expectQuotas(t, "years", l, api.Glut{Year: 2026, Years: years, Best: 1, Percent: 1000}, want, api.OK)
	}
	early := []api.Crop{{Grower: 1, Year: 0, Amount: 5}, {Grower: 2, Year: 1, Amount: 6}}
	expectQuotas(t, "the year 0", early, api.Glut{Years: 10, Best: 10, Percent: 1000}, nil, api.OK)
	expectQuotas(t, "the year 1", early, api.Glut{Year: 1, Years: 10, Best: 10, Percent: 1000}, []api.Quota{{Grower: 1, Base: 5, Amount: 5}}, api.OK)
	late := []api.Crop{{Grower: 1, Year: 9999, Amount: 5}, {Grower: 2, Year: 9998, Amount: 6}, {Grower: 3, Year: 9989, Amount: 7}, {Grower: 4, Year: 9988, Amount: 8}}
	expectQuotas(t, "the last year", late, api.Glut{Year: 9999, Years: 10, Best: 10, Percent: 1000}, []api.Quota{{Grower: 2, Base: 6, Amount: 6}, {Grower: 3, Base: 7, Amount: 7}}, api.OK)
}

// P12.1: the best crops count, whatever their years are; all of them if there are fewer.
func TestQuotasBest(t *testing.T) {
	l := years(7, 10, 50, 20, 50, 41)
	for best, want := range map[int]int{1: 50, 2: 50, 3: 47, 4: 40, 5: 34, 6: 34, 10: 34} {
		expectQuotas(t, "best", l, api.Glut{Year: 2026, Years: 10, Best: best, Percent: 1000}, []api.Quota{{Grower: 7, Base: want, Amount: want}}, api.OK)
	}
	// Only those in the years that count: of 20, 50 and 41.
	for best, want := range map[int]int{1: 50, 2: 45, 3: 37} {
		expectQuotas(t, "best", l, api.Glut{Year: 2026, Years: 3, Best: best, Percent: 1000}, []api.Quota{{Grower: 7, Base: want, Amount: want}}, api.OK)
	}
	bad := years(7, 0, 9, 0)
	for best, want := range map[int]int{1: 9, 2: 4, 3: 3, 4: 3} {
		expectQuotas(t, "a year with nothing is a crop", bad, api.Glut{Year: 2026, Years: 4, Best: best, Percent: 1000}, []api.Quota{{Grower: 7, Base: want, Amount: want}}, api.OK)
	}
	expectQuotas(t, "nothing", lastYear(0), exampleGlut(), []api.Quota{{}}, api.OK)
}

// P12.1: first the base is rounded down, then the quota.
func TestQuotasRound(t *testing.T) {
	for percent, want := range map[int]int{0: 0, 499: 1, 500: 1, 666: 1, 667: 2, 999: 2, 1000: 3} {
		// 3 and 4 are 3 in the average; 7 times 571 thousandths would be 3.997, of which the half is 1.
		expectQuotas(t, "twice", years(2, 3, 4), api.Glut{Year: 2026, Years: 2, Best: 2, Percent: percent}, []api.Quota{{Grower: 2, Base: 3, Amount: want}}, api.OK)
	}
	expectQuotas(t, "thirds", years(2, 1, 1, 0), api.Glut{Year: 2026, Years: 3, Best: 3, Percent: 1000}, []api.Quota{{Grower: 2}}, api.OK)
}

// P12.1, R5: the greatest numbers are exact.
func TestQuotasAtLimits(t *testing.T) {
	most := 1 << 40
	l := years(1023, most, most, most, most, most, most, most, most, most, most)
	expectQuotas(t, "limits", l, api.Glut{Year: 2026, Years: 10, Best: 10, Percent: 1000}, []api.Quota{{Grower: 1023, Base: most, Amount: most}}, api.OK)
	expectQuotas(t, "limits", l, api.Glut{Year: 2026, Years: 10, Best: 10, Percent: 999}, []api.Quota{{Grower: 1023, Base: most, Amount: 1098412116148}}, api.OK)
	l[4].Amount--
	expectQuotas(t, "a gram less", l, api.Glut{Year: 2026, Years: 10, Best: 10, Percent: 1000}, []api.Quota{{Grower: 1023, Base: most - 1, Amount: most - 1}}, api.OK)
	expectQuotas(t, "a gram less in a year that is not of the best", l, api.Glut{Year: 2026, Years: 10, Best: 9, Percent: 1000}, []api.Quota{{Grower: 1023, Base: most, Amount: most}}, api.OK)
}

// P12.1: as by asking all growers that there can be.
func TestQuotasAreJudge(t *testing.T) {
	several, rounded := 0, 0
	eachWorld(func(seed uint64, r world) {
		l, g := r.someCrops(), r.someGlut()
		want := judgeQuotas(l, g)
		expectQuotas(t, "judge", l, g, want, api.OK)
		if len(want) > 1 {
			several++
		}
		for _, q := range want {
			if q.Amount > 0 && q.Amount < q.Base {
				rounded++
			}
		}
		if t.Failed() {
			t.Fatal(seed)
		}
	})
	if several < 150 || rounded < 500 {
		t.Error("too few", several, rounded)
	}
}
