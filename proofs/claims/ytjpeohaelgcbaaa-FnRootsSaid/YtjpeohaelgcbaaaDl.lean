/- Draws for roots and bounds. -/
import Derived.Test.YtjpeohaelgcbaaaDk
namespace Go.Proofs.Ytjpeohaelgcbaaa
open Go.RowKit
set_option maxRecDepth 100000

set_option maxHeartbeats 1600000 in
theorem drawRoot_any (a : Option Addr) (len cap : Nat) (zs : List Int) (w : World) (hr : IsRow .u8 w a len cap zs) (hn : len ≤ 1048576) :
    Calls Try.prog 8 #[.slice a len cap] w fun e w' => ∃ x : Int, e = .returned (.int .i64 x) ∧ x ≤ 9223372036854775807 ∧ Below w.heap.size w w' := by
  go_enter Try.func8, Try.ntmps8
  go_wp2_with fail
  refine (l1New_any a len cap zs w hr hn).mono ?_
  rintro e w1 ⟨rfl, hc1, hb1, -⟩
  have hr1 := hr.later hb1
  clear hr
  have e1 := l1BelowBig_any w.heap.size a len cap zs 1000000 _ hc1 hr1 (by decide) (by decide)
  go_wp2_with fail
  refine e1.mono ?_
  clear e1
  rintro e w2 ⟨x, rfl, hx, hc2, hg2⟩
  have hr2 := hr1.aside hc1 hg2
  have B2 := hb1.trans (grown_below hg2 (Nat.le_refl _) hb1.size)
  clear hr1 hc1 hg2 hb1
  have e1 := pickN [0, 1, 3, 4, 99, 100, (x : Int), 9223372036854775807, 9223372030926249001, 9223372030926249000, -1] w.heap.size a len cap zs w2 hc2 hr2 (by simp) (by simp)
  simp only [List.map_cons, List.map_nil, List.length_cons, List.length_nil, Nat.zero_add, Nat.reduceAdd] at e1
  go_wp2_with fail
  refine e1.mono ?_
  clear e1
  rintro e w3 ⟨d, rfl, hd, hc3, hg3⟩
  have hd0 : d ≤ 9223372036854775807 := by
    simp only [List.mem_cons, List.not_mem_nil, or_false] at hd
    omega
  have B3 := B2.trans (grown_below hg3 (Nat.le_refl _) B2.size)
  clear hd hc3 hg3 hc2 hr2 B2
  go_wp2
  go_ret
  exact ⟨d, rfl, hd0, B3⟩

set_option maxHeartbeats 1600000 in
theorem drawEps_any (a : Option Addr) (len cap : Nat) (zs : List Int) (w : World) (hr : IsRow .u8 w a len cap zs) (hn : len ≤ 1048576) :
    Calls Try.prog 10 #[.slice a len cap] w fun e w' => ∃ x y : Int, e = .returned (.tuple #[.int .i64 x, .int .i64 y]) ∧ Below w.heap.size w w' := by
  go_enter Try.func10, Try.ntmps10
  go_wp2_with fail
  refine (l1New_any a len cap zs w hr hn).mono ?_
  rintro e w1 ⟨rfl, hc1, hb1, -⟩
  have hr1 := hr.later hb1
  clear hr
  have e1 := l1Below_any w.heap.size a len cap zs 9 _ hc1 hr1 (by decide) (by decide)
  go_wp2_with fail
  refine e1.mono ?_
  clear e1
  rintro e w2 ⟨x1, rfl, hx1, hc2, hg2⟩
  have hr2 := hr1.aside hc1 hg2
  have B2 := hb1.trans (grown_below hg2 (Nat.le_refl _) hb1.size)
  clear hr1 hc1 hg2 hb1
  have e1 := l1Below_any w.heap.size a len cap zs 9 _ hc2 hr2 (by decide) (by decide)
  go_wp2_with fail
  refine e1.mono ?_
  clear e1
  rintro e w3 ⟨x2, rfl, hx2, hc3, hg3⟩
  have hr3 := hr2.aside hc2 hg3
  have B3 := B2.trans (grown_below hg3 (Nat.le_refl _) B2.size)
  clear hr2 hc2 hg3 B2
  have e1 := pickN [1 + (x1 : Int), 1 + (x2 : Int), 0, 10] w.heap.size a len cap zs w3 hc3 hr3 (by simp) (by simp)
  simp only [List.map_cons, List.map_nil, List.length_cons, List.length_nil, Nat.zero_add, Nat.reduceAdd] at e1
  go_wp2_with fail
  refine e1.mono ?_
  clear e1
  rintro e w4 ⟨k, rfl, -, hc4, hg4⟩
  have hr4 := hr3.aside hc3 hg4
  have B4 := B3.trans (grown_below hg4 (Nat.le_refl _) B3.size)
  clear hr3 hc3 hg4 B3
  have e1 := l1BelowBig_any w.heap.size a len cap zs 999 _ hc4 hr4 (by decide) (by decide)
  go_wp2_with fail
  refine e1.mono ?_
  clear e1
  rintro e w5 ⟨x3, rfl, hx3, hc5, hg5⟩
  have hr5 := hr4.aside hc4 hg5
  have B5 := B4.trans (grown_below hg5 (Nat.le_refl _) B4.size)
  clear hr4 hc4 hg5 B4
  have e1 := l1BelowBig_any w.heap.size a len cap zs 999 _ hc5 hr5 (by decide) (by decide)
  go_wp2_with fail
  refine e1.mono ?_
  clear e1
  rintro e w6 ⟨x4, rfl, hx4, hc6, hg6⟩
  have hr6 := hr5.aside hc5 hg6
  have B6 := B5.trans (grown_below hg6 (Nat.le_refl _) B5.size)
  clear hr5 hc5 hg6 B5
  have e1 := pickN [1, 999, 1000, 0, 1 + (x3 : Int), 1 + (x4 : Int)] w.heap.size a len cap zs w6 hc6 hr6 (by simp) (by simp)
  simp only [List.map_cons, List.map_nil, List.length_cons, List.length_nil, Nat.zero_add, Nat.reduceAdd] at e1
  go_wp2_with fail
  refine e1.mono ?_
  clear e1
  rintro e w7 ⟨m, rfl, -, hc7, hg7⟩
  have B7 := B6.trans (grown_below hg7 (Nat.le_refl _) B6.size)
  clear hc7 hg7 hr6 hc6 B6
  go_wp2
  exact bodyPost_ret (results_tmp2 rfl _ _ _) rfl ⟨k, m, rfl, B7⟩
end Go.Proofs.Ytjpeohaelgcbaaa
