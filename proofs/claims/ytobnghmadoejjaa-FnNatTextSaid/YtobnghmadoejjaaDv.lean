/- The list and the divisor that a law on texts and quotients draws. -/
import Derived.Test.YtobnghmadoejjaaDm
namespace Go.Proofs.Ytobnghmadoejjaa
open Go.RowKit
set_option maxRecDepth 100000

set_option maxHeartbeats 800000 in
theorem drawDiv_any (a : Option Addr) (len cap : Nat) (zs : List Int) (w : World) (hr : IsRow .u8 w a len cap zs) (hn : len ≤ 1048576) :
    Calls Try.prog 18 #[.slice a len cap] w fun e w' => ∃ v, ∃ xs : List Int, ∃ d : Int, e = .returned (.tuple #[v, .int .i64 d]) ∧ xs.length ≤ 17 ∧ RowI w' v xs ∧ -3 ≤ d ∧ d ≤ 16777216 ∧ Below w.heap.size w w' := by
  go_enter Try.func18, Try.ntmps18
  go_wp2_with fail
  refine (l1New_any a len cap zs w hr hn).mono ?_
  rintro e w1 ⟨rfl, hc1, hb1, hsz1⟩
  have hr1 := hr.later hb1
  go_wp2_with fail
  refine (draw_any w.heap.size a len cap zs w1 hc1 hr1).mono ?_
  rintro e w2 ⟨v1, xs, rfl, hxl, ho1, hne1, hc2, hg2⟩
  have hr2 := hr1.aside hc1 hg2
  have hs2 := hg2.size
  go_wp2_with fail
  refine (l1BelowBig_any w.heap.size a len cap zs 9999 w2 hc2 hr2 (by decide) (by decide)).mono ?_
  rintro e w3 ⟨x, rfl, hx, hc3, hg3⟩
  have hr3 := hr2.aside hc2 hg3
  have hs3 := hg3.size
  have ho1 := own_cur ho1 (by omega) hg3
  have hbel3 : Below w.heap.size w w3 := ((hb1.grown hg2 (by omega) (fun k hk => by cases hk; exact Nat.le_refl _)).grown hg3 (by omega) (fun k hk => by cases hk; exact Nat.le_refl _))
  clear hc1 hr1 hc2 hr2 hg2 hg3 hb1 hr
  have e4 := pickN [1, 2, 10, 16777215, 16777216, 0, -3, 1 + (x : Int)] w.heap.size a len cap zs w3 hc3 hr3 (by simp) (by simp)
  go_wp2_with fail
  refine e4.mono ?_
  clear e4
  rintro e w4 ⟨d, rfl, hd, hc4, hg4⟩
  have ho1 := own_cur ho1 (by omega) hg4
  have hd1 : -3 ≤ d ∧ d ≤ 16777216 := by simp at hd; omega
  clear hd
  go_wp2
  go_ret2
  exact ⟨_, xs, _, rfl, hxl, RowI.of_own ho1 rfl, hd1.1, hd1.2, hbel3.grown hg4 (by omega) (fun k hk => by cases hk; exact Nat.le_refl _)⟩
end Go.Proofs.Ytobnghmadoejjaa
